// Package exprs helps the tests of the layers: it makes expressions to try calls with, by the words of chapter 9. It shares nothing with package expr.
package exprs

import (
	"math"
	"slices"
	"strings"

	"gristmill/api"
	"gristmill/internal/memtest"
)

// Names returns the names of the operations in the order of the chapter.
func Names() []string {
	return []string{"const", "line", "off", "word", "num", "key", "acc", "count", "add", "sub", "mul", "div", "mod", "neg", "eq", "lt", "and", "or", "not", "if", "len", "cat", "cut", "int", "str", "field", "upper", "find"}
}

// Name returns the name of the operation, or "" if op is none.
func Name(op int) string {
	if op < 0 || op > 27 {
		return ""
	}
	return Names()[op]
}

// Arity returns how many arguments the operation has, or -1 if op is none.
func Arity(op int) int {
	switch n := Name(op); {
	case n == "":
		return -1
	case op <= 7:
		return 0
	case slices.Contains([]string{"neg", "not", "len", "int", "str", "upper"}, n):
		return 1
	case slices.Contains([]string{"if", "cut", "field"}, n):
		return 3
	}
	return 2
}

// Every returns the parts of x, each ahead of its arguments.
func Every(x api.Expr) []api.Expr {
	l := []api.Expr{x}
	for _, arg := range x.Args {
		l = append(l, Every(arg)...)
	}
	return l
}

// Call returns an operation with its arguments.
func Call(op int, args ...api.Expr) api.Expr {
	return api.Expr{Op: op, Args: args}
}

// Number returns the const n.
func Number(n int) api.Expr {
	return api.Expr{Val: api.Val{Int: n}}
}

// Str returns the const s.
func Str(s string) api.Expr {
	return api.Expr{Val: api.Val{Kind: 1, Text: s}}
}

// Consts returns consts whose texts look like one another, or like something else that an expression has.
func Consts() []api.Expr {
	l := []api.Expr{}
	for _, n := range []int{0, 1, -1, 5, -5, 10, 55, math.MaxInt, math.MinInt} {
		l = append(l, Number(n))
	}
	for _, s := range []string{"5", "-5", "off", "const", "add", "(add off 5)", " ", "off 5", "\"", "\"\"", "\\", "\\\\", "\\\"", "\" \"", "\") (\"", "\\x00", "\\x0a", "\\n", "\n", "x00", "00", "'", "# 5", "\xc3\xa9\x00", strings.Repeat("a", 300)} {
		l = append(l, Str(s))
	}
	for _, s := range memtest.Rising() {
		l = append(l, Str(s))
	}
	return l
}

// Leaves returns all valid expressions without arguments, but for the consts that are missing.
func Leaves() []api.Expr {
	l := Consts()
	for op := 1; op <= 7; op++ {
		l = append(l, Call(op))
	}
	return l
}

// Few returns some of the leaves.
func Few() []api.Expr {
	return []api.Expr{Number(0), Number(-5), Str(""), Str("-5"), Str("off"), Str("off 5"), Str("\""), Call(api.OpOff), Call(api.OpLine)}
}

// Filled returns all calls of the operation with so many of the arguments.
func Filled(op, n int, args []api.Expr) []api.Expr {
	l := []api.Expr{Call(op)}
	for range n {
		var longer []api.Expr
		for _, x := range l {
			for _, arg := range args {
				longer = append(longer, Call(op, append(slices.Clone(x.Args), arg)...))
			}
		}
		l = longer
	}
	return l
}

// Nested returns x within so many negs.
func Nested(x api.Expr, n int) api.Expr {
	for range n {
		x = Call(api.OpNeg, x)
	}
	return x
}

// Sized returns a valid expression of so many parts that is as flat as can be.
func Sized(n int) api.Expr {
	switch {
	case n == 1:
		return Call(api.OpNum)
	case n%2 == 0:
		return Call(api.OpNeg, Sized(n-1))
	}
	half := n / 4 * 2
	if half == 0 {
		return Call(api.OpAdd, Sized(1), Sized(1))
	}
	return Call(api.OpAdd, Sized(half-1), Sized(n-half))
}

// Grown returns a valid expression of these leaves, of at most so many levels, as pick picks it among n at each turn.
func Grown(pick func(n int) int, leaves []api.Expr, levels int) api.Expr {
	leaf := leaves[pick(len(leaves))]
	op := pick(api.Ops)
	if levels <= 1 || Arity(op) == 0 {
		return leaf
	}
	// What an operation has as a value means nothing.
	x := api.Expr{Op: op, Val: leaf.Val}
	for range Arity(op) {
		x.Args = append(x.Args, Grown(pick, leaves, levels-1))
	}
	return x
}

// Valid returns valid expressions, few of them the same.
func Valid() []api.Expr {
	leaves := Leaves()
	l := Leaves()
	for op := 8; op <= 27; op++ {
		args := Few()
		if Arity(op) == 1 {
			args = leaves
		}
		l = append(l, Filled(op, Arity(op), args)...)
	}
	pick := Picks(9)
	for range 4000 {
		l = append(l, Grown(pick, leaves, 2+pick(3)))
	}
	return l
}

// Picks returns a function that picks one of n without a pattern, in the same way each time.
func Picks(seed int) func(n int) int {
	x := uint64(seed)
	return func(n int) int {
		x = x*6364136223846793005 + 1442695040888963407
		return int(x >> 33 % uint64(n))
	}
}
