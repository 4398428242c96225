package fault

import (
	"errors"
	"fmt"
	"math"
	"slices"
	"strings"
	"testing"

	"gristmill/api"
	"gristmill/internal/memtest"
)

// deep is how many parts may be nested in one another.
const deep = 1 << 16

// sample is an error, and what the words of the chapter say of it.
type sample struct {
	e      error
	stages []api.Slip
	all    []api.Errno
	tell   string
}

// none is the sample of no error.
func none() sample { return sample{tell: "ok"} }

func number(n api.Errno) sample {
	if n == 0 {
		return none()
	}
	return sample{e: New(n), all: []api.Errno{n}, tell: fmt.Sprintf("error %d", int(n))}
}

func in(stage string, no int, s sample) sample {
	e := In(stage, no, s.e)
	if s.e == nil {
		return sample{e: e, tell: "ok"}
	}
	around := append([]api.Slip{{Stage: stage, No: no}}, s.stages...)
	return sample{e, around, s.all, fmt.Sprintf("%s %d: %s", stage, no, s.tell)}
}

func both(a, b sample) sample {
	e := Both(a.e, b.e)
	switch {
	case a.e == nil:
		b.e = e
		return b
	case b.e == nil:
		a.e = e
		return a
	}
	return sample{e, nil, slices.Concat(a.all, b.all), "(" + a.tell + "; " + b.tell + ")"}
}

// numbers are numbers that have a name and numbers that have none.
func numbers() []api.Errno {
	return []api.Errno{
		api.ErrArg, api.ErrShort, api.ErrForm, api.ErrSum, api.ErrLong, api.ErrNone, api.ErrNil, api.ErrRange, api.ErrMany,
		api.ErrFull, api.ErrDead, api.ErrType, api.ErrName, api.ErrFold, api.ErrCombine, api.ErrDiv, api.ErrNum,
		api.ErrState, api.ErrOff, api.ErrKey, api.ErrLog, api.ErrMade,
		10, 1000, -1, -10, math.MaxInt32, math.MinInt32, math.MaxInt, math.MinInt,
	}
}

// names are stages of any kind: none, one that looks like what is told of an error, one that is no UTF-8.
func names() []string {
	return []string{"map", "", " ", "reduce 3: error 2", "(a; b)", "ok", "é€😀", "\x00\xff\n", "%d", string(memtest.Mixed(300))}
}

// nos are the numbers that a stage may have.
func nos() []int {
	return []int{0, 1, -1, 3, -2, 10, 1 << 20, math.MaxInt, math.MinInt}
}

// few are samples of each kind, also nested in one another, and none.
func few() []sample {
	two, nine := number(2), number(9)
	return []sample{
		none(), two, nine, in("map", 3, two), in("", 0, in("b", -1, nine)),
		both(two, nine), both(nine, two), both(two, two),
		both(in("map", 3, two), nine), both(nine, in("map", 3, two)),
		in("x", 1, both(two, nine)), in("x", 1, in("y", 2, both(in("z", 3, nine), two))),
		both(both(two, nine), number(341)), both(number(341), both(two, nine)),
		in("x", 1, both(in("y", 2, both(two, number(-5))), in("z", 3, both(nine, number(7))))),
	}
}

// samples are all numbers, stages of all kinds, and what one more step makes of the few.
func samples() []sample {
	l := few()
	for _, n := range numbers() {
		l = append(l, number(n), in("map", 3, number(n)), both(number(n), number(2)), both(number(2), number(n)))
	}
	for _, name := range names() {
		for _, no := range nos() {
			for _, s := range few() {
				l = append(l, in(name, no, s))
			}
		}
	}
	for _, a := range few() {
		for _, b := range few() {
			l = append(l, both(a, b), in("outer", 5, both(a, b)), both(in("outer", 5, a), b))
			for _, c := range few() {
				l = append(l, both(both(a, b), c), both(a, both(b, c)))
			}
		}
	}
	return l
}

// mixed are samples made by many steps without a pattern.
func mixed() []sample {
	kept := few()
	b := memtest.Mixed(6000)
	for i := 0; i+4 < len(b); i += 5 {
		one, other := kept[int(b[i])%len(kept)], kept[int(b[i+1])%len(kept)]
		var made sample
		switch b[i+2] % 4 {
		case 0:
			made = number(api.Errno(int8(b[i+3])))
		case 1:
			made = in(names()[int(b[i+3])%len(names())], int(int8(b[i+4])), one)
		default:
			made = both(one, other)
		}
		if len(made.tell) < 10000 {
			kept[int(b[i+4])%len(kept)] = made
		}
		kept = append(kept, made)
		if len(kept) > 200 {
			kept = kept[1:]
		}
	}
	return kept
}

// short is the beginning of a text.
func short(s string) string { return s[:min(len(s), 200)] }

// parts are the errors of a combination, or none.
func parts(e error) []error {
	if c, ok := e.(interface{ Unwrap() []error }); ok {
		return c.Unwrap()
	}
	return nil
}

// P5.1

func TestNew(t *testing.T) {
	if e := New(api.OK); e != nil {
		t.Errorf("New(OK) = %#v", e)
	}
	if e := New(0); e != nil {
		t.Errorf("New(0) = %#v", e)
	}
	for _, n := range numbers() {
		e := New(n)
		if got, ok := e.(api.Errno); !ok || got != n {
			t.Errorf("New(%d) = %#v", n, e)
		}
	}
}

func TestInOfNil(t *testing.T) {
	for _, name := range names() {
		for _, no := range nos() {
			if e := In(name, no, nil); e != nil {
				t.Errorf("In(%q, %d, nil) = %#v", name, no, e)
			}
			if e := In(name, no, New(api.OK)); e != nil {
				t.Errorf("In(%q, %d, New(OK)) = %#v", name, no, e)
			}
			if e := In("outer", 1, In(name, no, Both(nil, nil))); e != nil {
				t.Errorf("two stages of nil = %#v", e)
			}
		}
	}
}

func TestInIsASlipWithTheseFields(t *testing.T) {
	for _, name := range names() {
		for _, no := range nos() {
			for _, s := range few()[1:] {
				e := In(name, no, s.e)
				slip, ok := e.(api.Slip)
				if !ok || slip.Stage != name || slip.No != no || slip.Err != s.e {
					t.Errorf("In(%q, %d, %q) = %#v", name, no, s.tell, e)
				}
				if errors.Unwrap(e) != s.e {
					t.Errorf("In(%q, %d, %q) wraps %#v", name, no, s.tell, errors.Unwrap(e))
				}
			}
		}
	}
}

func TestBothOfNil(t *testing.T) {
	if e := Both(nil, nil); e != nil {
		t.Errorf("Both(nil, nil) = %#v", e)
	}
	for _, s := range samples() {
		if e := Both(s.e, nil); e != s.e {
			t.Errorf("Both(%q, nil) = %#v", short(s.tell), e)
		}
		if e := Both(nil, s.e); e != s.e {
			t.Errorf("Both(nil, %q) = %#v", short(s.tell), e)
		}
	}
}

func TestBothIsACombinationInOrder(t *testing.T) {
	for _, a := range few()[1:] {
		for _, b := range few()[1:] {
			e := Both(a.e, b.e)
			if !slices.Equal(parts(e), []error{a.e, b.e}) {
				t.Errorf("Both(%q, %q) = %#v", a.tell, b.tell, e)
			}
			if e.Error() != errors.Join(a.e, b.e).Error() {
				t.Errorf("Both(%q, %q) is not what errors.Join makes: %q", a.tell, b.tell, e.Error())
			}
		}
	}
}

func TestBothMakesNewMemory(t *testing.T) {
	a, b := New(2), New(9)
	e, again := Both(a, b), Both(a, b)
	outer := Both(e, b)
	if memtest.Shared(parts(e), parts(again)) || memtest.Shared(parts(e), parts(outer)) {
		t.Error("two combinations share memory")
	}
}

// P5.2

func checkFound(t *testing.T, s sample) {
	t.Helper()
	first := api.OK
	if len(s.all) > 0 {
		first = s.all[0]
	}
	if n := First(s.e); n != first {
		t.Errorf("First(%q) = %d, want %d", short(s.tell), n, first)
	}
	for _, n := range append(numbers(), api.OK) {
		if got := Has(s.e, n); got != slices.Contains(s.all, n) {
			t.Errorf("Has(%q, %d) = %t", short(s.tell), n, got)
		}
	}
	for _, n := range s.all {
		if !Has(s.e, n) {
			t.Errorf("Has(%q, %d) = false", short(s.tell), n)
		}
	}
	if l := All(s.e); !slices.Equal(l, s.all) {
		t.Errorf("All(%q) = %d, want %d", short(s.tell), l, s.all)
	}
	if l := Stages(s.e); !slices.Equal(l, s.stages) {
		t.Errorf("Stages(%q) = %#v, want %#v", short(s.tell), l, s.stages)
	}
}

func TestFoundInNil(t *testing.T) {
	if n := First(nil); n != api.OK {
		t.Errorf("First(nil) = %d", n)
	}
	for _, n := range append(numbers(), api.OK) {
		if Has(nil, n) {
			t.Errorf("Has(nil, %d)", n)
		}
	}
	if l := Stages(nil); len(l) != 0 {
		t.Errorf("Stages(nil) = %#v", l)
	}
	if l := All(nil); len(l) != 0 {
		t.Errorf("All(nil) = %v", l)
	}
}

func TestFoundKnown(t *testing.T) {
	e := In("reduce", -2, In("merge", 0, Both(In("map", 3, New(2)), Both(New(9), New(2)))))
	if n := First(e); n != 2 {
		t.Errorf("First = %d", n)
	}
	if !Has(e, 2) || !Has(e, 9) || Has(e, 3) || Has(e, 0) || Has(e, 29) {
		t.Error("Has is wrong")
	}
	if l := All(e); !slices.Equal(l, []api.Errno{2, 9, 2}) {
		t.Errorf("All = %d", l)
	}
	if l := Stages(e); !slices.Equal(l, []api.Slip{{Stage: "reduce", No: -2}, {Stage: "merge", No: 0}}) {
		t.Errorf("Stages = %#v", l)
	}
}

func TestFoundInSamples(t *testing.T) {
	for _, s := range samples() {
		checkFound(t, s)
	}
	for _, s := range mixed() {
		checkFound(t, s)
	}
}

func TestStagesEnd(t *testing.T) {
	// A number has none around it, nor has a combination, whatever is in it.
	for _, e := range []error{New(2), Both(New(2), New(9)), Both(In("a", 1, New(2)), In("a", 1, New(2)))} {
		if l := Stages(e); len(l) != 0 {
			t.Errorf("Stages(%q) = %#v", Tell(e), l)
		}
		want := []api.Slip{{Stage: "x", No: 1}, {Stage: "x", No: 1}, {Stage: "y", No: 2}}
		if l := Stages(In("x", 1, In("x", 1, In("y", 2, e)))); !slices.Equal(l, want) {
			t.Errorf("Stages around %q = %#v", Tell(e), l)
		}
	}
	// One error alone is no combination.
	if l := Stages(In("x", 1, Both(nil, In("y", 2, New(2))))); len(l) != 2 {
		t.Errorf("Stages = %#v", l)
	}
}

func TestFoundIsNewMemory(t *testing.T) {
	for _, s := range few() {
		stages, all := Stages(s.e), All(s.e)
		if memtest.Shared(stages, Stages(s.e)) || memtest.Shared(all, All(s.e)) {
			t.Errorf("two results share memory: %q", s.tell)
		}
		for i := range stages {
			stages[i] = api.Slip{Stage: "changed", No: 99, Err: api.ErrMade}
		}
		for i := range all {
			all[i] = 99
		}
		checkFound(t, s)
		checkTell(t, s)
	}
}

// P5.3

func checkTell(t *testing.T, s sample) {
	t.Helper()
	if got := Tell(s.e); got != s.tell {
		t.Errorf("Tell = %q, want %q", short(got), short(s.tell))
	}
}

func TestTellKnown(t *testing.T) {
	for _, x := range []struct {
		e    error
		want string
	}{
		{nil, "ok"},
		{New(api.OK), "ok"},
		{New(2), "error 2"},
		{New(api.ErrMade), "error 341"},
		{New(-7), "error -7"},
		{New(math.MinInt64), "error -9223372036854775808"},
		{In("map", 3, New(2)), "map 3: error 2"},
		{In("map", -3, New(2)), "map -3: error 2"},
		{In("", 0, New(2)), " 0: error 2"},
		{In("a b", math.MaxInt64, New(2)), "a b 9223372036854775807: error 2"},
		{In("map", 3, nil), "ok"},
		{Both(nil, nil), "ok"},
		{Both(nil, New(5)), "error 5"},
		{Both(New(5), nil), "error 5"},
		{Both(New(5), New(5)), "(error 5; error 5)"},
		{In("map", 3, Both(New(2), New(9))), "map 3: (error 2; error 9)"},
		{Both(Both(New(1), New(2)), New(3)), "((error 1; error 2); error 3)"},
		{Both(New(1), Both(New(2), New(3))), "(error 1; (error 2; error 3))"},
		{Both(In("a", 1, New(1)), In("b", 2, Both(New(2), New(3)))), "(a 1: error 1; b 2: (error 2; error 3))"},
		{In("reduce", -2, In("merge", 0, Both(In("map", 3, New(2)), New(9)))), "reduce -2: merge 0: (map 3: error 2; error 9)"},
	} {
		if got := Tell(x.e); got != x.want {
			t.Errorf("Tell = %q, want %q", got, x.want)
		}
	}
}

func TestTellSamples(t *testing.T) {
	for _, s := range samples() {
		checkTell(t, s)
	}
	for _, s := range mixed() {
		checkTell(t, s)
	}
}

func TestTellOfStages(t *testing.T) {
	// What Stages returns has a nil Err, and that is told as nil is.
	for _, s := range Stages(In("reduce", 2, In("map", 3, New(9)))) {
		want := fmt.Sprintf("%s %d: ok", s.Stage, s.No)
		checkTell(t, sample{e: s, tell: want})
		checkFound(t, sample{e: s, stages: []api.Slip{s}, tell: want})
	}
}

// P5.4

func checkConsequence(t *testing.T, e error) {
	t.Helper()
	all := All(e)
	if e == nil && len(all) != 0 || e != nil && (len(all) == 0 || First(e) != all[0]) {
		t.Errorf("First = %d, All = %d", First(e), all)
	}
	for n := api.Errno(-130); n < 350; n++ {
		if Has(e, n) != slices.Contains(all, n) {
			t.Errorf("Has(%d) = %t, All = %d", n, Has(e, n), all)
		}
	}
}

func TestConsequence(t *testing.T) {
	for _, s := range few() {
		checkConsequence(t, s.e)
	}
	for _, s := range mixed() {
		checkConsequence(t, s.e)
	}
}

// The general rules

func TestDeepStages(t *testing.T) {
	s := number(2)
	for range deep {
		s.e = In("map", 3, s.e)
	}
	s.stages = slices.Repeat([]api.Slip{{Stage: "map", No: 3}}, deep)
	s.tell = strings.Repeat("map 3: ", deep) + "error 2"
	checkFound(t, s)
	checkTell(t, s)
}

func TestDeepCombinations(t *testing.T) {
	left, right := number(2), number(2)
	for range deep {
		left.e, right.e = Both(left.e, New(9)), Both(New(9), right.e)
	}
	nines := slices.Repeat([]api.Errno{9}, deep)
	left.all, right.all = append([]api.Errno{2}, nines...), append(nines, 2)
	left.tell = strings.Repeat("(", deep) + "error 2" + strings.Repeat("; error 9)", deep)
	right.tell = strings.Repeat("(error 9; ", deep) + "error 2" + strings.Repeat(")", deep)
	for _, s := range []sample{left, right} {
		if First(s.e) != s.all[0] || !Has(s.e, 2) || !Has(s.e, 9) || Has(s.e, 3) || len(Stages(s.e)) != 0 {
			t.Errorf("not found in %q..", short(s.tell))
		}
		if !slices.Equal(All(s.e), s.all) {
			t.Errorf("All of %q..", short(s.tell))
		}
		checkTell(t, s)
	}
}

func TestCallsChangeNothing(t *testing.T) {
	for _, s := range few() {
		for range 2 {
			In("other", 1, s.e)
			Both(s.e, s.e)
			checkFound(t, s)
			checkTell(t, s)
		}
	}
}

// loud is an error that panics when it is unwrapped.
type loud struct{ error }

func (l loud) Unwrap() []error { panic("loud") }

func TestErrorsThatPanic(t *testing.T) {
	var slip *api.Slip
	for _, bad := range []error{slip, loud{}, (*loud)(nil), (*api.Errno)(nil)} {
		for _, e := range []error{bad, In("map", 3, bad), Both(bad, bad), In("map", 3, Both(bad, bad))} {
			if First(e) != api.OK || Has(e, 2) || len(All(e)) != 0 {
				t.Errorf("a number was found in %T", bad)
			}
			Stages(e)
			Tell(e)
		}
		// What is found ahead of it is found.
		if e := Both(New(2), bad); First(e) != 2 || !Has(e, 2) {
			t.Errorf("the number ahead of %T was not found", bad)
		}
	}
}

func TestErrorsOfAnotherMake(t *testing.T) {
	// The chapter says nothing of them, but calls end: no number is in them.
	other := errors.New("other")
	for _, e := range []error{other, In("map", 3, other), Both(other, other)} {
		if First(e) != api.OK || Has(e, 2) || len(All(e)) != 0 {
			t.Errorf("a number was found in %v", e)
		}
		Stages(e)
		Tell(e)
	}
	checkConsequence(t, Both(other, New(2)))
}
