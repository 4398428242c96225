package expr

import (
	"fmt"
	"math"
	"math/rand/v2"
	"slices"
	"strings"

	"gristmill/api"
	"gristmill/internal/memtest"
)

// names are the names of the operations in the order of the chapter.
var names = []string{"const", "line", "off", "word", "num", "key", "acc", "count", "add", "sub", "mul", "div", "mod", "neg", "eq", "lt", "and", "or", "not", "if", "len", "cat", "cut", "int", "str", "field", "upper", "find"}

// noOps are numbers that are no operations: those beside the operations, and those that a narrower kind of number would take for some.
var noOps = []int{-1, -2, -28, -128, -256, 28, 29, 31, 32, 127, 128, 255, 256, 256 + 8, 1 << 16, 1<<32 + 8, -1<<32 + 8, math.MaxInt, math.MinInt, math.MinInt + 8}

// The chapter in other words: nothing here calls the package.

func name(op int) string {
	if op < 0 || op > 27 {
		return ""
	}
	return names[op]
}

func arity(op int) int {
	switch n := name(op); {
	case n == "":
		return -1
	case op <= 7:
		return 0
	case slices.Contains([]string{"neg", "not", "len", "int", "str", "upper"}, n):
		return 1
	case slices.Contains([]string{"if", "cut", "field"}, n):
		return 3
	}
	return 2
}

// every returns the parts of x.
func every(x api.Expr) []api.Expr {
	l := []api.Expr{x}
	for _, arg := range x.Args {
		l = append(l, every(arg)...)
	}
	return l
}

func depth(x api.Expr) int {
	most := 0
	for _, arg := range x.Args {
		most = max(most, depth(arg))
	}
	return 1 + most
}

func right(x api.Expr) api.Errno {
	l := every(x)
	if len(l) > 200 {
		return api.ErrMany
	}
	if depth(x) > 20 {
		return api.ErrRange
	}
	for _, p := range l {
		if arity(p.Op) != len(p.Args) {
			return api.ErrForm
		}
	}
	for _, p := range l {
		if p.Op == 0 && p.Val.Kind != 0 && len(p.Val.Text) > 65536 {
			return api.ErrLong
		}
	}
	return api.OK
}

// spelled tells all that has a meaning in x, and how long it is ahead of each piece, so that no two that differ are told alike.
func spelled(x api.Expr) string {
	s := fmt.Sprintf("%d with %d:", x.Op, len(x.Args))
	switch {
	case x.Op == 0 && x.Val.Kind == 0:
		s += fmt.Sprintf("number %d.", x.Val.Int)
	case x.Op == 0:
		s += fmt.Sprintf("string %d %s.", len(x.Val.Text), x.Val.Text)
	}
	for _, arg := range x.Args {
		s += spelled(arg)
	}
	return s
}

func text(x api.Expr) string {
	if x.Op == 0 && x.Val.Kind == 0 {
		return fmt.Sprint(x.Val.Int)
	}
	if x.Op == 0 {
		return quoted(x.Val.Text)
	}
	words := []string{name(x.Op)}
	for _, arg := range x.Args {
		words = append(words, text(arg))
	}
	if len(words) == 1 {
		return words[0]
	}
	return "(" + strings.Join(words, " ") + ")"
}

func quoted(s string) string {
	var l []string
	for i := range len(s) {
		c := s[i : i+1]
		if c == "\"" || c == "\\" {
			c = "\\" + c
		} else if c < "\x20" || c > "\x7e" {
			c = fmt.Sprintf("\\x%02x", c)
		}
		l = append(l, c)
	}
	return "\"" + strings.Join(l, "") + "\""
}

// Expressions to try calls with.

func call(op int, args ...api.Expr) api.Expr {
	return api.Expr{Op: op, Args: args}
}

func number(n int) api.Expr {
	return api.Expr{Val: api.Val{Int: n}}
}

func str(s string) api.Expr {
	return api.Expr{Val: api.Val{Kind: 1, Text: s}}
}

// consts are values whose texts look like one another, or like something else that an expression has.
func consts() []api.Expr {
	l := []api.Expr{}
	for _, n := range []int{0, 1, -1, 5, -5, 10, 55, math.MaxInt, math.MinInt} {
		l = append(l, number(n))
	}
	for _, s := range []string{"5", "-5", "off", "const", "add", "(add off 5)", " ", "off 5", "\"", "\"\"", "\\", "\\\\", "\\\"", "\" \"", "\") (\"", "\\x00", "\\x0a", "\\n", "\n", "x00", "00", "'", "\xc3\xa9\x00", strings.Repeat("a", 300)} {
		l = append(l, str(s))
	}
	for _, s := range memtest.Rising() {
		l = append(l, str(s))
	}
	return l
}

// leaves are all valid expressions without arguments, but for the consts that are missing.
func leaves() []api.Expr {
	l := consts()
	for op := 1; op <= 7; op++ {
		l = append(l, call(op))
	}
	return l
}

var allLeaves = leaves()

// few are some of the leaves.
func few() []api.Expr {
	return []api.Expr{number(0), number(-5), str(""), str("-5"), str("off"), str("off 5"), str("\""), call(api.OpOff), call(api.OpLine)}
}

// filled returns all calls of the operation with so many of the arguments.
func filled(op, n int, args []api.Expr) []api.Expr {
	l := []api.Expr{call(op)}
	for range n {
		var longer []api.Expr
		for _, x := range l {
			for _, arg := range args {
				longer = append(longer, call(op, append(slices.Clone(x.Args), arg)...))
			}
		}
		l = longer
	}
	return l
}

// grown returns an expression of at most so many levels: a valid one, or one of any numbers and any arguments.
func grown(r *rand.Rand, levels int, valid bool) api.Expr {
	leaf := allLeaves[r.IntN(len(allLeaves))]
	if valid {
		op := r.IntN(28)
		if levels <= 1 || op <= 7 {
			return leaf
		}
		return grownCall(r, levels, valid, api.Expr{Op: op, Val: leaf.Val}, arity(op))
	}
	x := api.Expr{Op: r.IntN(32) - 2, Val: leaf.Val}
	if levels <= 1 {
		return x
	}
	return grownCall(r, levels, valid, x, r.IntN(5))
}

func grownCall(r *rand.Rand, levels int, valid bool, x api.Expr, n int) api.Expr {
	for range n {
		x.Args = append(x.Args, grown(r, levels-1, valid))
	}
	return x
}

// validOnes are valid expressions, few of them the same.
func validOnes() []api.Expr {
	l := leaves()
	for op := 8; op <= 27; op++ {
		switch arity(op) {
		case 1:
			l = append(l, filled(op, 1, leaves())...)
		case 2:
			l = append(l, filled(op, 2, few())...)
		case 3:
			l = append(l, filled(op, 3, few())...)
		}
	}
	r := rand.New(rand.NewPCG(9, 1))
	for range 4000 {
		l = append(l, grown(r, 2+r.IntN(3), true))
	}
	return l
}

// wildOnes are expressions of all kinds, most of them not valid.
func wildOnes() []api.Expr {
	l := []api.Expr{{}}
	for _, op := range append([]int{-1, 28, 99}, 0, 1, 2, 7, 8, 13, 18, 19, 27) {
		for n := range 4 {
			l = append(l, filled(op, n, []api.Expr{number(7), str("7"), call(api.OpOff), call(99), {Op: api.OpLine, Val: api.Val{Kind: 1, Text: "v"}, Args: []api.Expr{{}}}})...)
		}
	}
	r := rand.New(rand.NewPCG(9, 2))
	for range 2000 {
		l = append(l, grown(r, 5, false))
	}
	return l
}

// nested returns x within so many negs.
func nested(x api.Expr, n int) api.Expr {
	for range n {
		x = call(api.OpNeg, x)
	}
	return x
}

// sized returns a valid expression of so many parts that is as flat as can be.
func sized(n int) api.Expr {
	switch {
	case n == 1:
		return call(api.OpNum)
	case n%2 == 0:
		return call(api.OpNeg, sized(n-1))
	}
	half := n / 4 * 2
	if half == 0 {
		return call(api.OpAdd, sized(1), sized(1))
	}
	return call(api.OpAdd, sized(half-1), sized(n-half))
}

// replaced returns x with another part in the place of part i, in the order of every.
func replaced(x api.Expr, i int, part api.Expr) api.Expr {
	if i == 0 {
		return part
	}
	i--
	x.Args = slices.Clone(x.Args)
	for k, arg := range x.Args {
		n := len(every(arg))
		if i < n {
			x.Args[k] = replaced(arg, i, part)
			return x
		}
		i -= n
	}
	panic("there is no such part")
}
