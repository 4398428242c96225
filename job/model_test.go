package job

import (
	"fmt"
	"regexp"
	"slices"
	"strings"

	"gristmill/api"
	"gristmill/expr"
	"gristmill/internal/exprs"
	"gristmill/token"
)

// The chapter in other words: nothing here calls the package, but the layers below it, as the chapter does.

func foldNames() []string {
	return []string{"sum", "min", "max", "count", "cat", "first", "last"}
}

var wordOfLetters = regexp.MustCompile(`\A[abcdefghijklmnopqrstuvwxyz]{1,32}\z`)

func right(j api.Job) api.Errno {
	if !wordOfLetters.MatchString(j.Name) {
		return api.ErrForm
	}
	if j.Each+1 != max(0, min(256, j.Each+1)) || j.Parts != max(1, min(8, j.Parts)) || j.Fold != max(0, min(6, j.Fold)) {
		return api.ErrRange
	}
	if len(j.Emits) != max(1, min(8, len(j.Emits))) {
		return api.ErrMany
	}
	for i := range 3*len(j.Emits) + 1 {
		if e := expr.Right(*place(&j, i)); e != api.OK {
			return e
		}
	}
	return api.OK
}

// place returns the expression i of the job in the order of the chapter: three of each Emit, and then Finish.
func place(j *api.Job, i int) *api.Expr {
	if i == 3*len(j.Emits) {
		return &j.Finish
	}
	m := &j.Emits[i/3]
	return []*api.Expr{&m.Key, &m.Val, &m.When}[i%3]
}

func printed(j api.Job) string {
	s := "job " + j.Name + "\n"
	if j.Each >= 0 {
		s += fmt.Sprintf("each %d\n", j.Each)
	}
	for _, m := range j.Emits {
		s += "emit " + expr.Text(m.Key) + " " + expr.Text(m.Val)
		if m.When.Op != 0 || m.When.Val.Kind != 0 || m.When.Val.Int != 1 {
			s += " " + expr.Text(m.When)
		}
		s += "\n"
	}
	s += "fold " + foldNames()[j.Fold] + "\nfinish " + expr.Text(j.Finish) + "\n"
	if j.Combine {
		s += "combine\n"
	}
	return s + fmt.Sprintf("parts %d\n", j.Parts)
}

// parse looks for all ways at once in which a text may go on.
func parse(s string) (j api.Job, at int, e api.Errno) {
	l, at, e := token.Tokens(s)
	if e != api.OK {
		return api.Job{}, at, e
	}
	if at, ok := formed(l, len(s)); !ok {
		return api.Job{}, at, api.ErrForm
	}
	if j = made(l); right(j) != api.OK {
		return api.Job{}, len(s), right(j)
	}
	return j, len(s), api.OK
}

// rest is what is still to come: a word of the grammar, and what follows it. A word between quotes stands for itself, END for the end of a line, and one that alternatives knows for any of these.
type rest struct {
	word string
	next *rest
}

func alternatives(word string) []string {
	switch word {
	case "job":
		return []string{"'job' NAME END each emits 'fold' FOLD END 'finish' expr END combine 'parts' NUMBER END"}
	case "each":
		return []string{"", "'each' NUMBER END"}
	case "emits":
		return []string{"emit", "emit emits"}
	case "emit":
		return []string{"'emit' expr expr END", "'emit' expr expr expr END"}
	case "combine":
		return []string{"", "'combine' END"}
	case "expr":
		return []string{"VALUE", "VARIABLE", "( ONE expr )", "( TWO expr expr )", "( THREE expr expr expr )"}
	}
	return nil
}

// ahead returns the rest with these words ahead of it.
func ahead(words string, next *rest) *rest {
	l := strings.Fields(words)
	slices.Reverse(l)
	for _, word := range l {
		next = &rest{word, next}
	}
	return next
}

func fits(word string, t api.Tok) bool {
	switch word {
	case "END":
		return t.Kind == 5
	case "(", ")":
		return t.Kind == uint8(strings.Index("?()", word))
	case "NAME":
		return t.Kind == 3
	case "FOLD":
		return t.Kind == 3 && slices.Contains(foldNames(), t.Name)
	case "VARIABLE":
		return t.Kind == 3 && slices.Contains(strings.Fields("line off word num key acc count"), t.Name)
	case "VALUE":
		return t.Kind == 4
	case "NUMBER":
		return t.Kind == 4 && t.Val.Kind == 0
	case "ONE", "TWO", "THREE":
		return t.Kind == 3 && exprs.Arity(slices.Index(exprs.Names(), t.Name)) == slices.Index([]string{"", "ONE", "TWO", "THREE"}, word)
	}
	return t.Kind == 3 && word == "'"+t.Name+"'"
}

// after returns all that may be left when t has come.
func after(all []*rest, t api.Tok) []*rest {
	var l []*rest
	for len(all) > 0 {
		r := all[0]
		all = all[1:]
		switch {
		case r == nil:
		case alternatives(r.word) == nil && fits(r.word, t):
			l = append(l, r.next)
		default:
			for _, words := range alternatives(r.word) {
				all = append(all, ahead(words, r.next))
			}
		}
	}
	return l
}

// formed tells whether the tokens are lines of a job, and the place of the first one with which they are not.
func formed(l []api.Tok, end int) (at int, ok bool) {
	all := []*rest{{"job", nil}}
	l = append(slices.Clone(l), api.Tok{Kind: 5, At: end})
	for i, t := range l {
		if t.Kind == 5 && (i == 0 || l[i-1].Kind == 5) {
			continue
		}
		all = after(all, t)
		if len(all) > 0 {
			continue
		}
		for _, t := range l[i:] {
			if t.Kind != 5 {
				return t.At, false
			}
		}
		return end, false
	}
	return end, slices.Contains(all, nil)
}

// made returns the job of tokens that are lines of one.
func made(l []api.Tok) api.Job {
	j := api.Job{Each: -1}
	for _, line := range token.Lines(l) {
		first, more := line[0], line[1:]
		switch first.Name {
		case "job":
			j.Name = more[0].Name
		case "each":
			j.Each = more[0].Val.Int
		case "emit":
			l := append(read(more), exprs.Number(1))
			j.Emits = append(j.Emits, api.Emit{Key: l[0], Val: l[1], When: l[2]})
		case "fold":
			j.Fold = slices.Index(foldNames(), more[0].Name)
		case "finish":
			j.Finish = read(more)[0]
		case "combine":
			j.Combine = true
		case "parts":
			j.Parts = more[0].Val.Int
		}
	}
	return j
}

// read returns the expressions that these tokens are: each that is not closed yet collects its own on top of those around it.
func read(l []api.Tok) []api.Expr {
	open := [][]api.Expr{nil}
	for i, t := range l {
		top := len(open) - 1
		switch {
		case t.Kind == 1:
			open = append(open, nil)
		case t.Kind == 2:
			open[top-1] = append(open[top-1], exprs.Call(open[top][0].Op, open[top][1:]...))
			open = open[:top]
		case t.Kind == 3:
			open[top] = append(open[top], exprs.Call(slices.Index(exprs.Names(), t.Name)))
		default:
			open[top] = append(open[top], api.Expr{Val: l[i].Val})
		}
	}
	return open[0]
}

// alike tells whether two jobs are the same in all their fields, also those without a meaning.
func alike(j, k api.Job) bool {
	if len(j.Emits) != len(k.Emits) || j.Name != k.Name || j.Each != k.Each || j.Fold != k.Fold || j.Combine != k.Combine || j.Parts != k.Parts {
		return false
	}
	for i := range 3*len(j.Emits) + 1 {
		if !alikeExpr(*place(&j, i), *place(&k, i)) {
			return false
		}
	}
	return true
}

func alikeExpr(x, y api.Expr) bool {
	return x.Op == y.Op && x.Val == y.Val && slices.EqualFunc(x.Args, y.Args, alikeExpr)
}

// told is a job as a failed test tells it.
func told(j api.Job) string {
	s := fmt.Sprintf("{%.40q each %d", j.Name, j.Each)
	for i, m := range j.Emits {
		if i == 9 {
			s += fmt.Sprintf(" .. %d emits", len(j.Emits))
			break
		}
		s += fmt.Sprintf(" emit %.40s, %.40s, %.40s", expr.Text(m.Key), expr.Text(m.Val), expr.Text(m.When))
	}
	return s + fmt.Sprintf(" fold %d finish %.40s %t parts %d}", j.Fold, expr.Text(j.Finish), j.Combine, j.Parts)
}

// Jobs to try calls with.

// plain returns a valid job of this many Emits.
func plain(emits int) api.Job {
	j := api.Job{Name: "wc", Each: 32, Parts: 2, Finish: exprs.Call(api.OpStr, exprs.Call(api.OpAcc))}
	for i := range emits {
		j.Emits = append(j.Emits, api.Emit{Key: exprs.Call(api.OpWord), Val: exprs.Number(i + 1), When: exprs.Number(1)})
	}
	return j
}

// grown returns a valid job as pick picks it among n at each turn.
func grown(pick func(n int) int) api.Job {
	leaves := exprs.Leaves()
	x := func() api.Expr { return exprs.Grown(pick, leaves, 1+pick(4)) }
	j := api.Job{Name: strings.Repeat(string(rune('a'+pick(26))), 1+pick(32)), Each: -1, Fold: pick(7), Finish: x(), Combine: pick(2) == 0, Parts: 1 + pick(8)}
	if pick(3) > 0 {
		j.Each = pick(257) - 1
	}
	for range 1 + pick(8) {
		when := append(whens(), x())
		j.Emits = append(j.Emits, api.Emit{Key: x(), Val: x(), When: when[pick(len(when))]})
	}
	return j
}

// whens returns expressions that are the number 1, and some that look like it.
func whens() []api.Expr {
	return []api.Expr{exprs.Number(1), {Val: api.Val{Int: 1, Text: "x"}}, exprs.Number(0), exprs.Number(-1), exprs.Number(10), exprs.Str("1"), {Val: api.Val{Kind: 1, Int: 1}}, {Val: api.Val{Kind: 7, Int: 1, Text: "1"}}, {Op: api.OpLine, Val: api.Val{Int: 1}}, exprs.Call(api.OpNot, exprs.Number(1))}
}

func manyJobs(n int) []api.Job {
	pick := exprs.Picks(11)
	l := make([]api.Job, n)
	for i := range l {
		l[i] = grown(pick)
	}
	return l
}
