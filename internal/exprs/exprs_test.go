package exprs

import (
	"reflect"
	"slices"
	"testing"

	"gristmill/api"
)

func TestNames(t *testing.T) {
	l := Names()
	if len(l) != api.Ops || l[api.OpConst] != "const" || l[api.OpMod] != "mod" || l[api.OpFind] != "find" {
		t.Errorf("%q", l)
	}
	slices.Sort(l)
	if len(slices.Compact(l)) != api.Ops {
		t.Errorf("%q", l)
	}
	if Name(api.OpAdd) != "add" || Name(-1) != "" || Name(api.Ops) != "" {
		t.Error("Name does not go by Names")
	}
}

func TestArity(t *testing.T) {
	for n, ops := range [][]int{
		{api.OpConst, api.OpLine, api.OpOff, api.OpWord, api.OpNum, api.OpKey, api.OpAcc, api.OpCount},
		{api.OpNeg, api.OpNot, api.OpLen, api.OpInt, api.OpStr, api.OpUpper},
		{api.OpAdd, api.OpSub, api.OpMul, api.OpDiv, api.OpMod, api.OpEq, api.OpLt, api.OpAnd, api.OpOr, api.OpCat, api.OpFind},
		{api.OpIf, api.OpCut, api.OpField},
	} {
		for _, op := range ops {
			if Arity(op) != n {
				t.Errorf("%s has %d arguments", Name(op), Arity(op))
			}
		}
	}
	if Arity(-1) != -1 || Arity(api.Ops) != -1 {
		t.Error("what is no operation has arguments")
	}
}

func TestEvery(t *testing.T) {
	five, off := Number(5), Call(api.OpOff)
	inner := Call(api.OpNeg, Call(api.OpAdd, five, off))
	x := Call(api.OpCat, inner, Str("a"))
	if l := Every(x); !reflect.DeepEqual(l, []api.Expr{x, inner, inner.Args[0], five, off, Str("a")}) {
		t.Error(l)
	}
}

func TestFilled(t *testing.T) {
	a, b := Number(1), Str("b")
	want := []api.Expr{Call(9, a, a), Call(9, a, b), Call(9, b, a), Call(9, b, b)}
	if l := Filled(9, 2, []api.Expr{a, b}); !reflect.DeepEqual(l, want) {
		t.Error(l)
	}
	if l := Filled(9, 0, []api.Expr{a, b}); !reflect.DeepEqual(l, []api.Expr{{Op: 9}}) {
		t.Error(l)
	}
}

// levels returns how many parts of x stand one within the other.
func levels(x api.Expr) int {
	most := 0
	for _, arg := range x.Args {
		most = max(most, levels(arg))
	}
	return most + 1
}

func checkValid(t *testing.T, x api.Expr) {
	t.Helper()
	if len(Every(x)) > api.MaxExpr || levels(x) > api.MaxDeep {
		t.Errorf("%d parts on %d levels", len(Every(x)), levels(x))
	}
	for _, part := range Every(x) {
		if len(part.Args) != Arity(part.Op) {
			t.Errorf("%q with %d arguments", Name(part.Op), len(part.Args))
		}
	}
}

func TestNestedAndSized(t *testing.T) {
	for n := range api.MaxDeep {
		x := Nested(Number(7), n)
		checkValid(t, x)
		if levels(x) != n+1 || len(Every(x)) != n+1 {
			t.Errorf("%d negs have %d levels", n, levels(x))
		}
	}
	for n := 1; n <= api.MaxExpr; n++ {
		checkValid(t, Sized(n))
	}
	for n := 1; n <= 2*api.MaxExpr; n++ {
		if x := Sized(n); len(Every(x)) != n {
			t.Errorf("%d parts instead of %d", len(Every(x)), n)
		}
	}
}

func TestValid(t *testing.T) {
	var seen [api.Ops]int
	deepest, size := 0, 0
	for _, x := range Valid() {
		checkValid(t, x)
		deepest = max(deepest, levels(x))
		for _, part := range Every(x) {
			seen[part.Op]++
			size++
		}
	}
	if slices.Min(seen[:]) < 100 || deepest < 4 || size < 20000 {
		t.Error(seen, deepest, size)
	}
	if !reflect.DeepEqual(Valid(), Valid()) {
		t.Error("the expressions are not the same each time")
	}
}

func TestPicks(t *testing.T) {
	a, b, other := Picks(1), Picks(1), Picks(2)
	var counts [10]int
	unlike := 0
	for range 10000 {
		n := a(10)
		if b(10) != n {
			t.Fatal("the numbers are not the same each time")
		}
		if other(10) != n {
			unlike++
		}
		counts[n]++
	}
	if slices.Min(counts[:]) < 800 || unlike < 8000 {
		t.Error(counts, unlike)
	}
}
