package job

import (
	"math"
	"math/rand/v2"
	"reflect"
	"slices"
	"strconv"
	"strings"
	"testing"

	"gristmill/api"
	"gristmill/expr"
	"gristmill/internal/exprs"
	"gristmill/internal/memtest"
)

// P11.1

// wide are numbers far from all that are permitted, also those that a narrower kind of number would take for one.
func wide() []int {
	return []int{-2, -3, -128, -255, -256, -257, 256, 257, 258, 511, 512, 1 << 15, 1<<16 + 1, 1<<32 + 1, -1<<32 + 1, 1<<62 + 1, math.MaxInt, math.MinInt, math.MinInt + 1}
}

func TestFold(t *testing.T) {
	for n, want := range map[int]string{api.FoldSum: "sum", api.FoldMin: "min", api.FoldMax: "max", api.FoldCount: "count", api.FoldCat: "cat", api.FoldFirst: "first", api.FoldLast: "last"} {
		if got := Fold(n); got != want {
			t.Errorf("Fold(%d) = %q, want %q", n, got, want)
		}
	}
	for _, n := range append(wide(), -1, 7, 8, 127, 128, 255) {
		if got := Fold(n); got != "" {
			t.Errorf("Fold(%d) = %q", n, got)
		}
	}
}

func checkRight(t *testing.T, j api.Job, want api.Errno) {
	t.Helper()
	if got := Right(j); got != want {
		t.Errorf("Right of %s = %d, want %d", told(j), got, want)
	}
}

func TestRightOfNames(t *testing.T) {
	j := plain(1)
	names := []string{"", "wc", "a", "z", "job", "emit", "const", "az", "A", "Wc", "wC", "é", "aé", "a b", " a", "a ", "a\n", "a\x00", "w1", "1", "-", "a-b", "a_b", "\"a\"", "(a)", "ａ"}
	for n := range 70 {
		names = append(names, strings.Repeat("a", n), strings.Repeat("z", n), strings.Repeat("A", n), "A"+strings.Repeat("a", n), strings.Repeat("a", n)+"0")
	}
	for _, n := range []int{255, 256, 257, 288, api.MaxItem, api.MaxItem + 1} {
		names = append(names, strings.Repeat("m", n))
	}
	for _, s := range names {
		j.Name = s
		checkRight(t, j, right(j))
	}
}

func TestRightOfEachByteOfAName(t *testing.T) {
	for c := range 256 {
		want := api.ErrForm
		if c >= 'a' && c <= 'z' {
			want = api.OK
		}
		for _, around := range [][2]string{{"", ""}, {"", "bc"}, {"b", "c"}, {"bc", ""}, {strings.Repeat("q", 31), ""}, {"", strings.Repeat("q", 31)}} {
			j := plain(1)
			j.Name = around[0] + string([]byte{byte(c)}) + around[1]
			checkRight(t, j, want)
		}
	}
}

func TestRightOfNumbers(t *testing.T) {
	all := wide()
	for n := -3; n <= 260; n++ {
		all = append(all, n)
	}
	for _, n := range all {
		for _, set := range []func(j *api.Job){
			func(j *api.Job) { j.Each = n },
			func(j *api.Job) { j.Parts = n },
			func(j *api.Job) { j.Fold = n },
		} {
			j := plain(1)
			set(&j)
			checkRight(t, j, right(j))
		}
	}
	for set, j := range map[[3]int]api.Job{{-1, 1, 0}: plain(1), {255, 8, 6}: plain(8), {0, 1, 6}: plain(2)} {
		j.Each, j.Parts, j.Fold = set[0], set[1], set[2]
		checkRight(t, j, api.OK)
	}
}

func TestRightOfTheNumberOfEmits(t *testing.T) {
	for _, n := range []int{0, 1, 2, 7, 8, 9, 10, 16, 255, 256, 257, 264, 1<<16 + 1} {
		want := api.OK
		if n < 1 || n > 8 {
			want = api.ErrMany
		}
		checkRight(t, plain(n), want)
	}
	j := plain(0)
	j.Emits = []api.Emit{}
	checkRight(t, j, api.ErrMany)
	checkRight(t, api.Job{}, api.ErrForm)
}

// wrongs are expressions that are not valid, each with its error.
func wrongs() map[api.Errno]api.Expr {
	return map[api.Errno]api.Expr{
		api.ErrMany:  exprs.Sized(api.MaxExpr + 1),
		api.ErrRange: exprs.Nested(exprs.Number(1), api.MaxDeep),
		api.ErrForm:  exprs.Call(api.OpNeg),
		api.ErrLong:  exprs.Str(strings.Repeat("a", api.MaxItem+1)),
	}
}

// limits are valid expressions that are as great as can be.
func limits() []api.Expr {
	return []api.Expr{exprs.Sized(api.MaxExpr), exprs.Nested(exprs.Number(1), api.MaxDeep-1), exprs.Str(strings.Repeat("a", api.MaxItem))}
}

func TestRightLooksAtEachExpression(t *testing.T) {
	for _, emits := range []int{1, 2, 3, 8} {
		for i := range 3*emits + 1 {
			for want, x := range wrongs() {
				j := plain(emits)
				*place(&j, i) = x
				checkRight(t, j, want)
			}
			for _, x := range limits() {
				j := plain(emits)
				*place(&j, i) = x
				checkRight(t, j, api.OK)
			}
		}
	}
	j := plain(8)
	for i := range 25 {
		*place(&j, i) = exprs.Sized(api.MaxExpr)
	}
	checkRight(t, j, api.OK)
}

func TestRightNamesTheFirstExpression(t *testing.T) {
	for _, emits := range []int{1, 2, 8} {
		for later := range 3*emits + 1 {
			for first := range later {
				for want, x := range wrongs() {
					for _, y := range wrongs() {
						j := plain(emits)
						*place(&j, first) = x
						*place(&j, later) = y
						checkRight(t, j, want)
					}
				}
			}
		}
	}
}

func TestRightNamesTheFirstError(t *testing.T) {
	var lists [][]api.Emit
	for _, n := range []int{0, 1, 8, 9} {
		j := plain(n)
		lists = append(lists, j.Emits)
		if n > 0 {
			j.Emits = slices.Clone(j.Emits)
			j.Emits[n-1].When = exprs.Call(99)
			lists = append(lists, j.Emits)
		}
	}
	finishes := []api.Expr{exprs.Call(api.OpKey), wrongs()[api.ErrMany], wrongs()[api.ErrLong]}
	for _, name := range []string{"wc", "", "Wc", strings.Repeat("a", 33)} {
		for _, each := range []int{-2, -1, 32, 256} {
			for _, parts := range []int{0, 1, 8, 9} {
				for _, fold := range []int{-1, 0, 6, 7} {
					for _, emits := range lists {
						for _, finish := range finishes {
							j := api.Job{Name: name, Each: each, Emits: emits, Fold: fold, Finish: finish, Parts: parts}
							checkRight(t, j, right(j))
						}
					}
				}
			}
		}
	}
}

func TestRightTakesAllThatIsValid(t *testing.T) {
	for _, j := range manyJobs(1000) {
		checkRight(t, j, api.OK)
		j.Combine = !j.Combine
		checkRight(t, j, api.OK)
	}
}

// checkSame tries both orders.
func checkSame(t *testing.T, j, k api.Job, want bool) {
	t.Helper()
	if Same(j, k) != want || Same(k, j) != want {
		t.Errorf("Same of %s and %s is not %t", told(j), told(k), want)
	}
}

// copied shares no lists with j.
func copied(j api.Job) api.Job {
	j.Emits = slices.Clone(j.Emits)
	for i := range 3*len(j.Emits) + 1 {
		*place(&j, i) = copiedExpr(*place(&j, i))
	}
	return j
}

func copiedExpr(x api.Expr) api.Expr {
	x.Args = slices.Clone(x.Args)
	for i, arg := range x.Args {
		x.Args[i] = copiedExpr(arg)
	}
	return x
}

func TestSameSeesEachChange(t *testing.T) {
	for _, j := range append(manyJobs(100), plain(0), plain(1), plain(8), plain(12), api.Job{}) {
		checkSame(t, j, copied(j), true)
		for _, change := range []func(k *api.Job){
			func(k *api.Job) { k.Name += "a" },
			func(k *api.Job) { k.Name = "a" + k.Name },
			func(k *api.Job) { k.Each++ },
			func(k *api.Job) { k.Each += 256 },
			func(k *api.Job) { k.Each = math.MinInt },
			func(k *api.Job) { k.Fold++ },
			func(k *api.Job) { k.Fold -= 256 },
			func(k *api.Job) { k.Combine = !k.Combine },
			func(k *api.Job) { k.Parts++ },
			func(k *api.Job) { k.Parts += 1 << 32 },
			func(k *api.Job) { k.Emits = append(k.Emits, api.Emit{}) },
			func(k *api.Job) { k.Emits = append(k.Emits, k.Emits...); k.Emits = append(k.Emits, api.Emit{}) },
			func(k *api.Job) { k.Emits = append(k.Emits, api.Emit{Key: k.Finish, Val: k.Finish, When: k.Finish}) },
		} {
			k := copied(j)
			change(&k)
			checkSame(t, j, k, false)
		}
	}
}

func TestSameOfNamesAndNumbers(t *testing.T) {
	names := []string{"", "a", "b", "A", "ab", "ba", "aB", "a\x00", "é", "e", strings.Repeat("a", 33), strings.Repeat("a", 32) + "b"}
	for i, s := range names {
		for k, other := range names {
			checkSame(t, api.Job{Name: s}, api.Job{Name: other}, i == k)
		}
	}
	numbers := append(wide(), -1, 0, 1, 2, 6, 7, 8, 9, 255)
	for i, n := range numbers {
		for k, other := range numbers {
			checkSame(t, api.Job{Each: n}, api.Job{Each: other}, i == k)
			checkSame(t, api.Job{Fold: n}, api.Job{Fold: other}, i == k)
			checkSame(t, api.Job{Parts: n}, api.Job{Parts: other}, i == k)
			checkSame(t, api.Job{Each: n}, api.Job{Parts: n}, n == 0)
			checkSame(t, api.Job{Fold: n}, api.Job{Each: n}, n == 0)
		}
	}
}

func TestSameOfWrongExpressions(t *testing.T) {
	// Their texts are alike.
	five := exprs.Number(5)
	l := []api.Expr{exprs.Call(99), exprs.Call(-1), exprs.Call(28), exprs.Call(99, five), exprs.Call(98, five), five, exprs.Call(api.OpConst, exprs.Call(99)), exprs.Call(api.OpConst, five)}
	for i, x := range l {
		for k, other := range l {
			for n := range 4 {
				j := plain(1)
				*place(&j, n) = x
				changed := copied(j)
				*place(&changed, n) = other
				checkSame(t, j, changed, i == k)
			}
		}
	}
}

func TestSameLooksAtEachExpression(t *testing.T) {
	for _, emits := range []int{0, 1, 2, 8, 9, 20} {
		j := plain(emits)
		for i := range 3*emits + 1 {
			for _, other := range append(whens()[2:], exprs.Number(math.MaxInt), exprs.Call(api.OpUpper, *place(&j, i)), exprs.Call(99), wrongs()[api.ErrMany]) {
				k := copied(j)
				*place(&k, i) = other
				checkSame(t, j, k, expr.Same(*place(&j, i), other))
				checkSame(t, k, copied(k), true)
			}
		}
	}
}

func TestSameLooksAtTheOrder(t *testing.T) {
	j := plain(3)
	for _, order := range [][]int{{0, 2, 1}, {1, 0, 2}, {2, 1, 0}, {1, 2, 0}, {0, 0, 1}, {0, 1, 1}, {0, 1}, {1, 2}, {0}, {}} {
		k := copied(j)
		k.Emits = nil
		for _, i := range order {
			k.Emits = append(k.Emits, j.Emits[i])
		}
		checkSame(t, j, k, false)
	}
	m := api.Emit{Key: exprs.Number(5), Val: exprs.Number(6), When: exprs.Number(7)}
	for _, other := range []api.Emit{{Key: m.Key, Val: m.When, When: m.Val}, {Key: m.Val, Val: m.Key, When: m.When}, {Key: m.When, Val: m.Val, When: m.Key}, {Key: m.Val, Val: m.When, When: m.Key}} {
		checkSame(t, api.Job{Emits: []api.Emit{m}}, api.Job{Emits: []api.Emit{other}}, false)
	}
}

func TestSameLooksAtWhatIsMeantAlone(t *testing.T) {
	j := plain(2)
	k := copied(j)
	for i := range 7 {
		place(&k, i).Args = append(make([]api.Expr, 0, 7), place(&k, i).Args...)
	}
	k.Emits = slices.Grow(k.Emits, 9)
	checkSame(t, j, k, true)
	checkSame(t, plain(0), api.Job{Name: "wc", Each: 32, Emits: []api.Emit{}, Finish: plain(0).Finish, Parts: 2}, true)
	for _, x := range exprs.Consts() {
		for _, v := range memtest.Disguised(x.Val) {
			for i := range 7 {
				k := copied(j)
				*place(&j, i), *place(&k, i) = x, api.Expr{Val: v}
				checkSame(t, j, k, true)
			}
		}
	}
}

func TestSameOfAllPairs(t *testing.T) {
	jobs := manyJobs(200)
	for i, j := range jobs {
		for k, other := range jobs {
			// Two jobs without a pattern are never the same.
			if Same(j, other) != (i == k) {
				t.Errorf("Same of %s and %s", told(j), told(other))
			}
		}
	}
}

// P11.2

func checkPrint(t *testing.T, j api.Job, want string) {
	t.Helper()
	if got := Print(j); got != want {
		t.Errorf("Print of %s = %.300q, want %.300q", told(j), got, want)
	}
}

// example is the job of the chapter's example.
func example() api.Job {
	j := plain(1)
	j.Combine = true
	return j
}

func TestPrintKnown(t *testing.T) {
	j := example()
	checkPrint(t, j, "job wc\neach 32\nemit word 1\nfold sum\nfinish (str acc)\ncombine\nparts 2\n")
	j.Each = -1
	checkPrint(t, j, "job wc\nemit word 1\nfold sum\nfinish (str acc)\ncombine\nparts 2\n")
	j.Combine = false
	checkPrint(t, j, "job wc\nemit word 1\nfold sum\nfinish (str acc)\nparts 2\n")
	j.Each = 0
	checkPrint(t, j, "job wc\neach 0\nemit word 1\nfold sum\nfinish (str acc)\nparts 2\n")
	j.Emits = []api.Emit{{Key: exprs.Str("all \"\n"), Val: exprs.Call(api.OpAdd, exprs.Call(api.OpOff), exprs.Number(-5)), When: exprs.Call(api.OpLt, exprs.Number(0), exprs.Call(api.OpNum))}}
	j.Fold, j.Finish, j.Parts = api.FoldLast, exprs.Call(api.OpKey), 8
	checkPrint(t, j, "job wc\neach 0\nemit \"all \\\"\\x0a\" (add off -5) (lt 0 num)\nfold last\nfinish key\nparts 8\n")
	j.Emits = append(j.Emits, plain(2).Emits...)
	checkPrint(t, j, "job wc\neach 0\nemit \"all \\\"\\x0a\" (add off -5) (lt 0 num)\nemit word 1\nemit word 2\nfold last\nfinish key\nparts 8\n")
}

func TestPrintOfWhen(t *testing.T) {
	for _, x := range append(whens(), exprs.Valid()...) {
		j := plain(2)
		j.Emits[0].When, j.Emits[1].When = x, x
		want := " " + expr.Text(x)
		if want == " 1" {
			want = ""
		}
		checkPrint(t, j, "job wc\neach 32\nemit word 1"+want+"\nemit word 2"+want+"\nfold sum\nfinish (str acc)\nparts 2\n")
	}
	// Only When has a value that goes without saying.
	j := plain(1)
	j.Emits[0] = api.Emit{Key: exprs.Number(1), Val: exprs.Number(1), When: exprs.Number(1)}
	j.Finish = exprs.Number(1)
	checkPrint(t, j, "job wc\neach 32\nemit 1 1\nfold sum\nfinish 1\nparts 2\n")
}

func TestPrintOfNumbers(t *testing.T) {
	for each := -1; each <= 255; each++ {
		j := plain(1)
		j.Each, j.Fold, j.Parts = each, max(each, 0)%7, 1+max(each, 0)%8
		line := "each " + strconv.Itoa(each) + "\n"
		if each == -1 {
			line = ""
		}
		checkPrint(t, j, "job wc\n"+line+"emit word 1\nfold "+foldNames()[j.Fold]+"\nfinish (str acc)\nparts "+strconv.Itoa(j.Parts)+"\n")
	}
}

func TestPrintByDefinition(t *testing.T) {
	for _, j := range manyJobs(3000) {
		checkPrint(t, j, printed(j))
	}
	for _, x := range exprs.Valid() {
		j := plain(1)
		for i := range 4 {
			*place(&j, i) = x
		}
		checkPrint(t, j, printed(j))
	}
}

// misprints are jobs that are not valid, each for one reason, with their errors.
func misprints() map[api.Errno][]api.Job {
	l := map[api.Errno][]api.Job{}
	add := func(e api.Errno, change func(j *api.Job)) {
		for _, emits := range []int{1, 8} {
			j := plain(emits)
			change(&j)
			l[e] = append(l[e], j)
		}
	}
	for _, s := range []string{"", "A", "a b", "a\n", strings.Repeat("a", 33)} {
		add(api.ErrForm, func(j *api.Job) { j.Name = s })
	}
	for _, n := range []int{-2, 256, math.MaxInt, math.MinInt} {
		add(api.ErrRange, func(j *api.Job) { j.Each = n })
		add(api.ErrRange, func(j *api.Job) { j.Fold = n })
		add(api.ErrRange, func(j *api.Job) { j.Parts = n })
	}
	for _, n := range []int{0, 9, 100} {
		add(api.ErrMany, func(j *api.Job) { j.Emits = plain(n).Emits })
	}
	for e, x := range wrongs() {
		for i := range 4 {
			add(e, func(j *api.Job) { *place(j, i) = x })
		}
		add(e, func(j *api.Job) { j.Finish = x })
	}
	return l
}

func TestPrintOfWrongJobs(t *testing.T) {
	checkPrint(t, api.Job{}, "")
	for e, l := range misprints() {
		for _, j := range l {
			checkRight(t, j, e)
			checkPrint(t, j, "")
		}
	}
}

// P11.3

func checkJob(t *testing.T, s string, want api.Job) {
	t.Helper()
	j, at, e := Parse(s)
	if !alike(j, want) || at != len(s) || e != api.OK {
		t.Errorf("Parse(%.300q) = %s, %d, %d; want %s, %d, 0", s, told(j), at, e, told(want), len(s))
	}
}

// checkWrong fails if there is another error, or anything beside it but its place.
func checkWrong(t *testing.T, s string, at int, e api.Errno) {
	t.Helper()
	if j, gotAt, gotE := Parse(s); !reflect.DeepEqual(j, api.Job{}) || gotAt != at || gotE != e {
		t.Errorf("Parse(%.300q) = %s, %d, %d; want none, %d, %d", s, told(j), gotAt, gotE, at, e)
	}
}

func checkByDefinition(t *testing.T, s string) {
	t.Helper()
	if want, at, e := parse(s); e != api.OK {
		checkWrong(t, s, at, e)
	} else {
		checkJob(t, s, want)
	}
}

func TestParseKnown(t *testing.T) {
	j := example()
	s := "job wc\neach 32\nemit word 1\nfold sum\nfinish (str acc)\ncombine\nparts 2\n"
	for _, written := range []string{
		s,
		strings.TrimSuffix(s, "\n"),
		"\n\n# a job\n" + s + "\n# its end",
		strings.ReplaceAll(s, "\n", "  # what for\n \n\n"),
		strings.ReplaceAll(s, " ", "   "),
		" " + strings.ReplaceAll(s, "\n", "\n  "),
		"job wc\neach032\nemit word 0001\nfold sum\nfinish(str acc)\ncombine\nparts2",
		"job wc\neach 32\nemit word 1 1\nfold sum\nfinish ( str acc )\ncombine\nparts 02",
	} {
		checkJob(t, written, j)
	}
	j.Each, j.Combine = -1, false
	checkJob(t, "job wc\nemit word 1\nfold sum\nfinish (str acc)\nparts 2\n", j)
	checkJob(t, "job wc\neach -1\nemit word 1\nfold sum\nfinish (str acc)\nparts 2\n", j)
	checkJob(t, "job wc\neach -01\nemit word 1\nfold sum\nfinish (str acc)\nparts 2\n", j)
	j.Each = 0
	checkJob(t, "job wc\neach -0\nemit word 1\nfold sum\nfinish (str acc)\nparts 2\n", j)
	j.Emits[0].When = exprs.Str("1")
	checkJob(t, "job wc\neach 0\nemit word 1\"1\"\nfold sum\nfinish (str acc)\nparts 2\n", j)
}

func TestParseOfWordsAsNames(t *testing.T) {
	for _, s := range append(exprs.Names(), "job", "each", "emit", "fold", "finish", "combine", "parts", "sum", "a", strings.Repeat("z", 32)) {
		j := plain(1)
		j.Name = s
		checkJob(t, "job "+s+"\neach 32\nemit word 1\nfold sum\nfinish (str acc)\nparts 2\n", j)
	}
}

func TestParseOfEachFold(t *testing.T) {
	for n, s := range foldNames() {
		j := plain(1)
		j.Fold = n
		checkJob(t, "job wc\neach 32\nemit word 1\nfold "+s+"\nfinish (str acc)\nparts 2\n", j)
	}
	for _, s := range append(exprs.Names(), "x", "su", "summ", "Sum", "firs", "fold", "0", "6", "\"sum\"", "(sum)", "(", ")", "") {
		if !slices.Contains(foldNames(), s) {
			checkByDefinition(t, "job wc\nemit word 1\nfold "+s+"\nfinish (str acc)\nparts 2\n")
		}
	}
}

func TestParseTellsTheFirstWrongToken(t *testing.T) {
	for s, at := range map[string]int{
		"": 0, "  # nothing\n\n": 13, "jobs a": 0, "(": 0, "\n\n wc": 3, "5": 0, "\"job\" a": 0, "each 5": 0,
		"job": 3, "job # a\n": 8, "job\n a": 5, "job\njob a": 4, "job 5": 4, "job \"a\"": 4, "job (a)": 4, "job a b": 6, "job a5": 5, "job wc(": 6,
		"job a\n": 6, "job a\njob b": 6, "job a\nfold sum": 6, "job a\nemits": 6, "job a\n(emit": 6,
		"job a\neach": 10, "job a\neach x": 11, "job a\neach \"5\"": 11, "job a\neach (5)": 11, "job a\neach\nemit": 11, "job a\neach 5 5": 13, "job a\neach 5": 12, "job a\neach 5\neach 5": 13, "job a\neach 5\nfold sum": 13, "job a\neach 5\n5": 13,
		"job a\nemit": 10, "job a\nemit\nemit": 11, "job a\nemit 5": 12, "job a\nemit 5 # 1\n\nemit 5": 18, "job a\nemit 5 5 5 5": 17, "job a\nemit 5 5 5)": 16, "job a\nemit 5 5\neach 5": 15, "job a\nemit 5 5\nfinish key": 15, "job a\nemit 5 5": 14,
		"job a\nemit fold 5": 11, "job a\nemit const 5": 11, "job a\nemit neg 5": 11, "job a\nemit ()": 12, "job a\nemit )": 11, "job a\nemit (5)": 12, "job a\nemit ((neg 5))": 12, "job a\nemit (\"neg\" 5)": 12,
		"job a\nemit (line)": 12, "job a\nemit (const 5)": 12, "job a\nemit (x)": 12, "job a\nemit (neg)": 15, "job a\nemit (neg 5": 17, "job a\nemit (neg 5\n)": 18, "job a\nemit (neg\n5)": 16, "job a\nemit (\nneg 5)": 13, "job a\nemit (neg 5 5)": 18, "job a\nemit (add 5)": 17, "job a\nemit (if 5 5)": 18, "job a\nemit (if 5 5 5 5)": 21,
		"job a\nemit 5 5\nfold": 19, "job a\nemit 5 5\nfold x": 20, "job a\nemit 5 5\nfold 0": 20, "job a\nemit 5 5\nfold sum min": 24, "job a\nemit 5 5\nfold sum\nfold sum": 24, "job a\nemit 5 5\nfold sum\nparts 1": 24, "job a\nemit 5 5\nfold sum\nemit 5 5": 24, "job a\nemit 5 5\nfold sum": 23,
		"job a\nemit 5 5\nfold sum\nfinish": 30, "job a\nemit 5 5\nfold sum\nfinish 5 5": 33, "job a\nemit 5 5\nfold sum\nfinish 5": 32, "job a\nemit 5 5\nfold sum\nfinish\nparts 1": 31, "job a\nemit 5 5\nfold sum\nfinish (str": 35,
		"job a\nemit 5 5\nfold sum\nfinish 5\ncombine": 40, "job a\nemit 5 5\nfold sum\nfinish 5\ncombine 1": 41, "job a\nemit 5 5\nfold sum\nfinish 5\ncombine\ncombine": 41, "job a\nemit 5 5\nfold sum\nfinish 5\nfold": 33,
		"job a\nemit 5 5\nfold sum\nfinish 5\nparts": 38, "job a\nemit 5 5\nfold sum\nfinish 5\nparts x": 39, "job a\nemit 5 5\nfold sum\nfinish 5\nparts \"1\"": 39, "job a\nemit 5 5\nfold sum\nfinish 5\nparts 1 1": 41, "job a\nemit 5 5\nfold sum\nfinish 5\nparts 1\ncombine": 41, "job a\nemit 5 5\nfold sum\nfinish 5\nparts 1\n\n\njob a": 43,
	} {
		checkWrong(t, s, at, api.ErrForm)
		checkByDefinition(t, s)
	}
}

func TestParseOfWordsThatAreAlike(t *testing.T) {
	l := texts()[0]
	for i, word := range l {
		if word[0] < 'a' || word[0] > 'z' || word == "wc" {
			continue
		}
		var others []string
		for k := range len(word) + 1 {
			for c := 'a'; c <= 'z'; c++ {
				others = append(others, word[:k]+string(c)+word[k:])
			}
		}
		for _, other := range append(others, word[1:], word[:len(word)-1], strings.ToUpper(word), word+word, word+"ed") {
			changed := slices.Clone(l)
			changed[i] = other
			s := strings.Join(changed, " ")
			checkByDefinition(t, s)
			if _, at, e := Parse(s); at == len(s) || e != api.ErrForm {
				t.Errorf("%q is taken for %q", other, word)
			}
		}
	}
}

// words are texts of one token each, all that may stand somewhere in a job, and some that may not.
func words() []string {
	return []string{"job", "each", "emit", "fold", "finish", "combine", "parts", "sum", "last", "x", "const", "line", "count", "neg", "add", "cut", "(", ")", "5", "-1", "1", "300", "\"\"", "\"sum\"", "\n"}
}

// texts are jobs of few tokens, each of these ahead of a blank.
func texts() [][]string {
	return [][]string{
		strings.Split("job wc \n each 32 \n emit word 1 \n fold sum \n finish ( str acc ) \n combine \n parts 2 \n", " "),
		strings.Split("job a \n emit ( cat line \"a\" ) off ( if 5 ( not 0 ) num ) \n emit ( cut word 1 2 ) \"\" \n fold last \n finish key \n parts 8", " "),
	}
}

// checkWords tries the tokens as a text.
func checkWords(t *testing.T, l ...[]string) {
	t.Helper()
	checkByDefinition(t, strings.Join(slices.Concat(l...), " "))
}

func TestParseOfEachChangedToken(t *testing.T) {
	for _, l := range texts() {
		for i := range len(l) + 1 {
			checkWords(t, l[:i])
			checkWords(t, l[i:])
			for k := i; k <= len(l); k++ {
				checkWords(t, l[:i], l[k:])
				checkWords(t, l[:k], l[i:])
			}
			for _, s := range words() {
				checkWords(t, l[:i], []string{s}, l[i:])
				checkWords(t, l[:i], []string{s}, l[min(i+1, len(l)):])
				checkWords(t, l[:i], []string{s})
				checkWords(t, l[:i], []string{s, s}, l[i:])
			}
		}
	}
}

func TestParseOfTwoChangedTokens(t *testing.T) {
	r := rand.New(rand.NewPCG(11, 1))
	for range 10000 {
		l := texts()[r.IntN(2)]
		for range 2 + r.IntN(2) {
			i, s := r.IntN(len(l)), words()[r.IntN(len(words()))]
			l = slices.Concat(l[:i], []string{s}, l[i+r.IntN(2):])
		}
		checkWords(t, l)
	}
}

func TestParseOfEachChangedByte(t *testing.T) {
	s := "job a\neach 5\nemit (len word) \"a\\x0a\" 1\nfold sum\nfinish key\ncombine\nparts 2"
	for i := range s {
		checkByDefinition(t, s[:i])
		checkByDefinition(t, s[:i]+s[i+1:])
		for c := range 256 {
			checkByDefinition(t, s[:i]+string([]byte{byte(c)})+s[i+1:])
		}
		for _, c := range " \n#()a05-\"\\\t" {
			checkByDefinition(t, s[:i]+string(c)+s[i:])
		}
	}
}

func TestParseOfAllShortExpressions(t *testing.T) {
	check := func(words []string, most int) {
		letters := make([]byte, len(words))
		for i := range letters {
			letters[i] = byte(i)
		}
		for _, b := range memtest.Short(letters, most) {
			l := []string{"job a\nemit"}
			for _, c := range b {
				l = append(l, words[c])
			}
			checkWords(t, l, []string{"\nfold sum\nfinish key\nparts 1"})
		}
	}
	check([]string{"line", "const", "neg", "cat", "if", "(", ")", "5", "x", "\n"}, 4)
	check([]string{"line", "neg", "(", ")", "\nemit"}, 6)
	check([]string{"5", "cat", "(", ")"}, 7)
}

func TestParseOfAllOrdersOfLines(t *testing.T) {
	lines := strings.SplitAfter("job a\neach 5\nemit off 1\nfold sum\nfinish key\ncombine\nparts 1\n", "\n")[:7]
	check := func(order []byte) {
		s := ""
		for _, i := range order {
			s += lines[i]
		}
		checkByDefinition(t, s)
	}
	for _, b := range memtest.Short([]byte{0, 1, 2, 3, 4, 5, 6}, 5) {
		check(b)
	}
	// Each line is missing, there once, or there twice.
	for n := range 3 * 3 * 3 * 3 * 3 * 3 * 3 {
		var order []byte
		for i := range lines {
			order = append(order, slices.Repeat([]byte{byte(i)}, n%3)...)
			n /= 3
		}
		check(order)
	}
	for i := range lines {
		for k := range i {
			order := []byte{0, 1, 2, 3, 4, 5, 6}
			order[i], order[k] = order[k], order[i]
			check(order)
		}
	}
}

func TestParseNamesTheErrorOfTokensFirst(t *testing.T) {
	good := "job a\nemit off 1\nfold sum\nfinish key\nparts 1\n"
	for bad, e := range map[string]api.Errno{"A": api.ErrForm, "\t": api.ErrForm, "\"a": api.ErrForm, "9223372036854775808": api.ErrRange, "-9223372036854775809\n": api.ErrRange, "\"" + strings.Repeat("a", api.MaxItem+1) + "\"": api.ErrLong} {
		for _, ahead := range []string{"", "x ", good, "job a\nfold sum\n", "job a\nemit (neg) ", "job a\neach ", "job a\neach 300\nparts 9\nemit off ", good + good} {
			checkWrong(t, ahead+bad, len(ahead), e)
			checkWrong(t, ahead+bad+" "+good, len(ahead), e)
		}
	}
	full := strings.Repeat("x ", api.MaxTok)
	checkWrong(t, full, 0, api.ErrForm)
	checkWrong(t, full+"x", len(full), api.ErrMany)
	checkWrong(t, "job "+full, len("job "+full)-2, api.ErrMany)
}

func TestParseNamesTheErrorOfRightLast(t *testing.T) {
	name := strings.Repeat("a", 33)
	emit := "emit off 1\n"
	large, deep := expr.Text(exprs.Sized(201)), expr.Text(exprs.Nested(exprs.Number(1), 20))
	for _, c := range []struct {
		s string
		e api.Errno
	}{
		{"job " + name + "\n" + emit + "fold sum\nfinish key\nparts 1", api.ErrForm},
		{"job " + name + "\neach 256\n" + emit + "fold sum\nfinish key\nparts 1", api.ErrForm},
		{"job a\neach -2\n" + emit + "fold sum\nfinish key\nparts 1", api.ErrRange},
		{"job a\neach 256\n" + emit + "fold sum\nfinish key\nparts 1", api.ErrRange},
		{"job a\neach 9223372036854775807\n" + emit + "fold sum\nfinish key\nparts 1\n", api.ErrRange},
		{"job a\n" + emit + "fold sum\nfinish key\nparts 0", api.ErrRange},
		{"job a\n" + emit + "fold sum\nfinish key\nparts 9 # too many\n", api.ErrRange},
		{"job a\n" + emit + "fold sum\nfinish key\nparts -1", api.ErrRange},
		{"job a\n" + emit + "fold sum\nfinish key\nparts 257", api.ErrRange},
		{"job a\n" + strings.Repeat(emit, 9) + "fold sum\nfinish key\nparts 1\n\n", api.ErrMany},
		{"job a\n" + strings.Repeat(emit, 9) + "fold sum\nfinish key\nparts 9", api.ErrRange},
		{"job a\n" + strings.Repeat(emit, 1000) + "fold sum\nfinish key\nparts 1", api.ErrMany},
		{"job a\n" + strings.Repeat("emit "+deep+" 1\n", 9) + "fold sum\nfinish key\nparts 1", api.ErrMany},
		{"job a\nemit " + large + " 1\nfold sum\nfinish key\nparts 1", api.ErrMany},
		{"job a\nemit " + deep + " 1\nfold sum\nfinish key\nparts 1", api.ErrRange},
		{"job a\nemit off " + deep + " " + large + "\nfold sum\nfinish key\nparts 1", api.ErrRange},
		{"job a\nemit off 1 " + large + "\nfold sum\nfinish " + deep + "\nparts 1", api.ErrMany},
		{"job a\n" + emit + "emit off 1 " + deep + "\nfold sum\nfinish " + large + "\nparts 1", api.ErrRange},
		{"job a\n" + emit + "fold sum\nfinish " + large + "\nparts 1", api.ErrMany},
	} {
		checkWrong(t, c.s, len(c.s), c.e)
		checkByDefinition(t, c.s)
		// A wrong form is told first, be it at the very end.
		checkWrong(t, c.s+"\n(", len(c.s)+1, api.ErrForm)
		last := strings.LastIndex(c.s, "parts")
		checkWrong(t, c.s[:last], last, api.ErrForm)
		checkWrong(t, c.s[:last]+"parts\n", last+6, api.ErrForm)
	}
}

func TestParseOfDeepExpressions(t *testing.T) {
	for _, n := range []int{19, 20, 199, 200, 1000, 16000} {
		ahead := "job a\nemit off 1\nfold sum\nfinish "
		open, closed := strings.Repeat("(neg ", n), strings.Repeat(")", n)
		checkByDefinition(t, ahead+open+"5"+closed+"\nparts 1")
		checkWrong(t, ahead+open, len(ahead+open), api.ErrForm)
		checkWrong(t, ahead+open+"\nparts 1", len(ahead+open)+1, api.ErrForm)
		checkWrong(t, ahead+open+"5"+closed+")", len(ahead+open+closed)+1, api.ErrForm)
		checkWrong(t, ahead+open+"5"+closed[1:]+"\nparts 1", len(ahead+open+closed)+1, api.ErrForm)
	}
	ahead := "job a\nemit off 1\nfold sum\nfinish "
	open := strings.Repeat("(neg ", (api.MaxTok-11)/2)
	checkWrong(t, ahead+open, len(ahead+open), api.ErrForm)
}

func TestParseAtTheLimits(t *testing.T) {
	j := plain(8)
	j.Name, j.Each, j.Parts = strings.Repeat("z", 32), 255, 8
	for i := range 25 {
		*place(&j, i) = limits()[i%3]
	}
	checkJob(t, printed(j), j)
	for i := range 25 {
		*place(&j, i) = exprs.Sized(api.MaxExpr)
	}
	checkJob(t, printed(j), j)
}

func TestParseOfManyTexts(t *testing.T) {
	r := rand.New(rand.NewPCG(11, 2))
	for _, j := range manyJobs(1000) {
		// All that may stand between two tokens means nothing.
		s := strings.ReplaceAll(printed(j), "\n", []string{"\n", "\n\n", " # a\n", "  \n # \"\n\n "}[r.IntN(4)])
		checkByDefinition(t, s)
		cut := r.IntN(len(s))
		checkByDefinition(t, s[:cut])
		checkByDefinition(t, s[:cut]+words()[r.IntN(len(words()))]+s[cut:])
	}
	for _, n := range []int{10, 1000, api.MaxItem} {
		checkByDefinition(t, string(memtest.Mixed(n)))
		checkByDefinition(t, "job a\n#"+string(memtest.Mixed(n)))
	}
}

// lists returns all lists of arguments in the job.
func lists(j api.Job) [][]api.Expr {
	var l [][]api.Expr
	for i := range 3*len(j.Emits) + 1 {
		for _, part := range exprs.Every(*place(&j, i)) {
			l = append(l, part.Args)
		}
	}
	return l
}

func TestJobsAreNewMemory(t *testing.T) {
	for _, j := range manyJobs(100) {
		s := printed(j)
		one, _, _ := Parse(s)
		other, _, _ := Parse(s)
		if memtest.Shared(one.Emits, other.Emits) {
			t.Errorf("two answers for %.80q share the Emits", s)
		}
		all := append(lists(one), lists(other)...)
		for i, l := range all {
			for _, earlier := range all[:i] {
				if memtest.Shared(l, earlier) {
					t.Errorf("two lists of answers for %.80q share memory", s)
				}
			}
		}
	}
}

// whole returns the job with all that is in the spare room of its lists.
func whole(j api.Job) api.Job {
	j.Emits = slices.Clone(j.Emits[:cap(j.Emits)])
	for i := range 3*len(j.Emits) + 1 {
		*place(&j, i) = wholeExpr(*place(&j, i))
	}
	return j
}

func wholeExpr(x api.Expr) api.Expr {
	x.Args = slices.Clone(x.Args[:cap(x.Args)])
	for i, arg := range x.Args {
		x.Args[i] = wholeExpr(arg)
	}
	return x
}

// roomy returns the job with marks in the spare room of its lists.
func roomy(j api.Job) api.Job {
	mark := exprs.Str("mark")
	j.Emits = memtest.Roomy(j.Emits, api.Emit{Key: mark, Val: mark, When: mark})
	for i := range 3*len(j.Emits) + 1 {
		x := place(&j, i)
		x.Args = memtest.Roomy(x.Args, mark)
	}
	return j
}

func TestArgumentsAreKept(t *testing.T) {
	jobs := append(manyJobs(200), api.Job{}, plain(0), plain(9))
	for _, l := range misprints() {
		jobs = append(jobs, l...)
	}
	for _, j := range jobs {
		given := roomy(j)
		before := whole(given)
		Right(given)
		Print(given)
		Same(given, j)
		Same(j, given)
		if !reflect.DeepEqual(whole(given), before) {
			t.Errorf("%s was changed", told(j))
		}
	}
}

// P11.4

func checkReadBack(t *testing.T, j api.Job) {
	t.Helper()
	s := Print(j)
	k, at, e := Parse(s)
	if s == "" || at != len(s) || e != api.OK || !Same(j, k) || Print(k) != s {
		t.Errorf("Parse(%.300q) = %s, %d, %d; want %s", s, told(k), at, e, told(j))
	}
}

func TestPrintedJobsAreReadBack(t *testing.T) {
	checkReadBack(t, example())
	for _, j := range manyJobs(3000) {
		checkReadBack(t, j)
	}
	for each := -1; each <= 255; each++ {
		j := plain(1)
		j.Each = each
		checkReadBack(t, j)
	}
	for n, x := range slices.Concat(exprs.Valid(), whens(), limits()) {
		j := plain(2)
		*place(&j, n%7) = x
		checkReadBack(t, j)
	}
}

func TestGreatJobsAreReadBack(t *testing.T) {
	j := plain(8)
	j.Name = strings.Repeat("q", 32)
	for i := range 25 {
		*place(&j, i) = exprs.Sized(api.MaxExpr)
	}
	checkReadBack(t, j)
	for i := range 25 {
		*place(&j, i) = exprs.Nested(exprs.Str(string(memtest.Mixed(api.MaxItem))), api.MaxDeep-1)
	}
	checkReadBack(t, j)
}

func FuzzParse(f *testing.F) {
	for _, l := range texts() {
		f.Add(strings.Join(l, " "))
	}
	for _, j := range manyJobs(20) {
		f.Add(printed(j))
	}
	f.Fuzz(checkByDefinition)
}

func FuzzPrint(f *testing.F) {
	f.Add(5)
	f.Fuzz(func(t *testing.T, seed int) {
		j := grown(exprs.Picks(seed))
		checkPrint(t, j, printed(j))
		checkReadBack(t, j)
	})
}
