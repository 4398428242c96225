package expr

import (
	"fmt"
	"math"
	"math/rand/v2"
	"slices"
	"strings"

	"gristmill/api"
	"gristmill/internal/exprs"
)

// noOps are numbers that are no operations: those beside the operations, and those that a narrower kind of number would take for some.
var noOps = []int{-1, -2, -28, -128, -256, 28, 29, 31, 32, 127, 128, 255, 256, 256 + 8, 1 << 16, 1<<32 + 8, -1<<32 + 8, math.MaxInt, math.MinInt, math.MinInt + 8}

// The chapter in other words: nothing here calls the package.

func depth(x api.Expr) int {
	most := 0
	for _, arg := range x.Args {
		most = max(most, depth(arg))
	}
	return 1 + most
}

func right(x api.Expr) api.Errno {
	l := exprs.Every(x)
	if len(l) > 200 {
		return api.ErrMany
	}
	if depth(x) > 20 {
		return api.ErrRange
	}
	for _, p := range l {
		if exprs.Arity(p.Op) != len(p.Args) {
			return api.ErrForm
		}
	}
	for _, p := range l {
		if p.Op == 0 && p.Val.Kind != 0 && len(p.Val.Text) > 65536 {
			return api.ErrLong
		}
	}
	return api.OK
}

// spelled tells all that has a meaning in x, and how long it is ahead of each piece, so that no two that differ are told alike.
func spelled(x api.Expr) string {
	s := fmt.Sprintf("%d with %d:", x.Op, len(x.Args))
	switch {
	case x.Op == 0 && x.Val.Kind == 0:
		s += fmt.Sprintf("number %d.", x.Val.Int)
	case x.Op == 0:
		s += fmt.Sprintf("string %d %s.", len(x.Val.Text), x.Val.Text)
	}
	for _, arg := range x.Args {
		s += spelled(arg)
	}
	return s
}

func text(x api.Expr) string {
	if x.Op == 0 && x.Val.Kind == 0 {
		return fmt.Sprint(x.Val.Int)
	}
	if x.Op == 0 {
		return quoted(x.Val.Text)
	}
	words := []string{exprs.Name(x.Op)}
	for _, arg := range x.Args {
		words = append(words, text(arg))
	}
	if len(words) == 1 {
		return words[0]
	}
	return "(" + strings.Join(words, " ") + ")"
}

func quoted(s string) string {
	var l []string
	for i := range len(s) {
		c := s[i : i+1]
		if c == "\"" || c == "\\" {
			c = "\\" + c
		} else if c < "\x20" || c > "\x7e" {
			c = fmt.Sprintf("\\x%02x", c)
		}
		l = append(l, c)
	}
	return "\"" + strings.Join(l, "") + "\""
}

// Expressions to try calls with.

// grown returns an expression of at most so many levels: of any numbers and any arguments.
func grown(r *rand.Rand, leaves []api.Expr, levels int) api.Expr {
	x := api.Expr{Op: r.IntN(32) - 2, Val: leaves[r.IntN(len(leaves))].Val}
	if levels > 1 {
		for range r.IntN(5) {
			x.Args = append(x.Args, grown(r, leaves, levels-1))
		}
	}
	return x
}

// wildOnes are expressions of all kinds, most of them not valid.
func wildOnes() []api.Expr {
	l := []api.Expr{{}}
	for _, op := range append([]int{-1, 28, 99}, 0, 1, 2, 7, 8, 13, 18, 19, 27) {
		for n := range 4 {
			l = append(l, exprs.Filled(op, n, []api.Expr{exprs.Number(7), exprs.Str("7"), exprs.Call(api.OpOff), exprs.Call(99), {Op: api.OpLine, Val: api.Val{Kind: 1, Text: "v"}, Args: []api.Expr{{}}}})...)
		}
	}
	r, leaves := rand.New(rand.NewPCG(9, 2)), exprs.Leaves()
	for range 2000 {
		l = append(l, grown(r, leaves, 5))
	}
	return l
}

// replaced returns x with another part in the place of part i, in the order of Every.
func replaced(x api.Expr, i int, part api.Expr) api.Expr {
	if i == 0 {
		return part
	}
	i--
	x.Args = slices.Clone(x.Args)
	for k, arg := range x.Args {
		n := len(exprs.Every(arg))
		if i < n {
			x.Args[k] = replaced(arg, i, part)
			return x
		}
		i -= n
	}
	panic("there is no such part")
}
