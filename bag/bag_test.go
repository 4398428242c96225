package bag

import (
	"bytes"
	"fmt"
	"math"
	"slices"
	"strings"
	"testing"
	"unsafe"

	"gristmill/api"
	"gristmill/internal/memtest"
)

// fresh is a new bag.
func fresh(t testing.TB, nodes, most int) *Bag {
	t.Helper()
	g, e := New(nodes, most)
	if e != api.OK || g == nil {
		t.Fatalf("New(%d, %d) = %v, %d", nodes, most, g, e)
	}
	return g
}

// build is a bag with messages written as "01abc": from node 0 to node 1, with the bytes abc.
func build(t testing.TB, nodes, most int, msgs ...string) *Bag {
	t.Helper()
	g := fresh(t, nodes, most)
	for _, m := range msgs {
		must(t, "Send", g.Send(int(m[0]-'0'), int(m[1]-'0'), []byte(m[2:])), api.OK)
	}
	return g
}

// letters is a bag of three nodes with a message for each letter, from node 0 to node 1.
func letters(t testing.TB, most int, text string) *Bag {
	t.Helper()
	g := fresh(t, 3, most)
	for i := range len(text) {
		must(t, "Send", g.Send(0, 1, []byte(text[i:i+1])), api.OK)
	}
	return g
}

// must reports a call that did not return the error that it must.
func must(t testing.TB, what string, e, want api.Errno) {
	t.Helper()
	if e != want {
		t.Errorf("%s returned %d, want %d", what, e, want)
	}
}

// says reports a call that did not return the bool that it must.
func says(t testing.TB, what string, ok, want bool) {
	t.Helper()
	if ok != want {
		t.Errorf("%s returned %t, want %t", what, ok, want)
	}
}

// told is a message as build writes it.
func told(m api.Msg) string {
	return fmt.Sprintf("%d%d%s", m.From, m.To, m.Data)
}

// has reports a bag whose messages are not those wanted, written as build writes them.
func has(t testing.TB, g *Bag, want ...string) {
	t.Helper()
	var l []string
	for _, m := range g.All() {
		l = append(l, told(m))
	}
	if !slices.Equal(l, want) || g.Len() != len(want) {
		t.Errorf("the %d messages are %q, want %q", g.Len(), l, want)
	}
}

// counts reports a bag that has counted otherwise.
func counts(t testing.TB, g *Bag, sent, taken, lost int) {
	t.Helper()
	if a, b, c := g.Counts(); a != sent || b != taken || c != lost {
		t.Errorf("Counts() = %d, %d, %d, want %d, %d, %d", a, b, c, sent, taken, lost)
	}
}

// takes reports a Take that did not return the message, written as build writes it.
func takes(t testing.TB, g *Bag, i int, want string) {
	t.Helper()
	if m, ok := g.Take(i); !ok || told(m) != want {
		t.Errorf("Take(%d) = %v, %t, want %q", i, m, ok, want)
	}
}

// takesNone reports a Take that returned something.
func takesNone(t testing.TB, g *Bag, i int) {
	t.Helper()
	if m, ok := g.Take(i); ok || m.From != 0 || m.To != 0 || len(m.Data) != 0 {
		t.Errorf("Take(%d) = %v, %t", i, m, ok)
	}
}

// look is all that the calls tell of a bag.
func look(g *Bag) string {
	var s strings.Builder
	for node := -1; node <= api.MaxNodes; node++ {
		fmt.Fprint(&s, g.Up(node), " ")
	}
	sent, taken, lost := g.Counts()
	fmt.Fprint(&s, g.Len(), g.All(), sent, taken, lost)
	return s.String()
}

// P7.1

func TestNew(t *testing.T) {
	for nodes := 1; nodes <= api.MaxNodes; nodes++ {
		for _, most := range []int{1, 2, 100, api.MaxBag - 1, api.MaxBag} {
			g := fresh(t, nodes, most)
			has(t, g)
			counts(t, g, 0, 0, 0)
			for node := range nodes {
				says(t, "Up of a node", g.Up(node), true)
			}
			says(t, "Up of none", g.Up(nodes), false)
			for range most {
				must(t, "Send", g.Send(0, nodes-1, nil), api.OK)
			}
			must(t, "Send of one more", g.Send(0, nodes-1, nil), api.ErrMany)
		}
	}
}

func TestNewRefuses(t *testing.T) {
	low := []int{0, -1, -512, math.MinInt}
	for _, nodes := range append(low, api.MaxNodes+1, api.MaxBag, 1<<32+1, math.MaxInt) {
		for _, most := range []int{1, api.MaxBag, 0, api.MaxBag + 1} {
			if g, e := New(nodes, most); g != nil || e != api.ErrArg {
				t.Errorf("New(%d, %d) = %v, %d", nodes, most, g, e)
			}
		}
	}
	for _, most := range append(low, api.MaxBag+1, 1<<32+1, math.MaxInt) {
		for _, nodes := range []int{1, 4, api.MaxNodes} {
			if g, e := New(nodes, most); g != nil || e != api.ErrArg {
				t.Errorf("New(%d, %d) = %v, %d", nodes, most, g, e)
			}
		}
	}
}

func TestNewIsPure(t *testing.T) {
	a, b := fresh(t, 2, 2), fresh(t, 2, 2)
	must(t, "Send", a.Send(0, 1, []byte("a")), api.OK)
	must(t, "Set", a.Set(1, false), api.OK)
	takesNone(t, a, 0)
	has(t, b)
	counts(t, b, 0, 0, 0)
	says(t, "Up", b.Up(1), true)
	counts(t, fresh(t, 2, 2), 0, 0, 0)
	says(t, "Up", fresh(t, 2, 2).Up(1), true)
}

func TestNilBag(t *testing.T) {
	var g *Bag
	for _, n := range []int{0, 1, -1, api.MaxNodes, math.MinInt, math.MaxInt} {
		must(t, "Send", g.Send(n, 0, []byte("a")), api.ErrNil)
		must(t, "Send", g.Send(0, n, nil), api.ErrNil)
		must(t, "Set", g.Set(n, true), api.ErrNil)
		must(t, "Set", g.Set(n, false), api.ErrNil)
		says(t, "Up", g.Up(n), false)
		says(t, "Lose", g.Lose(n), false)
		says(t, "Twice", g.Twice(n), false)
		says(t, "Move", g.Move(n, 0), false)
		says(t, "Move", g.Move(0, n), false)
		takesNone(t, g, n)
	}
	has(t, g)
	counts(t, g, 0, 0, 0)
	if l := g.All(); len(l) != 0 {
		t.Error(l)
	}
}

func TestSend(t *testing.T) {
	g := fresh(t, 3, 5)
	must(t, "Send", g.Send(0, 1, []byte("a")), api.OK)
	has(t, g, "01a")
	must(t, "Send", g.Send(2, 0, []byte("bc")), api.OK)
	has(t, g, "01a", "20bc")
	must(t, "Send to itself", g.Send(1, 1, []byte("d")), api.OK)
	must(t, "Send of nothing", g.Send(1, 0, nil), api.OK)
	must(t, "Send of nothing", g.Send(0, 2, []byte{}), api.OK)
	has(t, g, "01a", "20bc", "11d", "10", "02")
	counts(t, g, 5, 0, 0)
}

func TestSendFromAndToAllNodes(t *testing.T) {
	for nodes := 1; nodes <= api.MaxNodes; nodes++ {
		g := fresh(t, nodes, 1)
		for from := -1; from <= nodes; from++ {
			for to := -1; to <= nodes; to++ {
				if from < 0 || to < 0 || from == nodes || to == nodes {
					must(t, "Send", g.Send(from, to, nil), api.ErrArg)
					continue
				}
				must(t, "Send", g.Send(from, to, nil), api.OK)
				takes(t, g, 0, fmt.Sprintf("%d%d", from, to))
			}
		}
		counts(t, g, nodes*nodes, nodes*nodes, 0)
	}
}

func TestSendRefuses(t *testing.T) {
	wrong := []int{-1, 3, api.MaxNodes - 1, api.MaxNodes, api.MaxNodes + 1, 1 << 32, math.MinInt, math.MaxInt}
	for _, most := range []int{1, 2} { // full, and not
		g := build(t, 3, most, "00a")
		must(t, "Set", g.Set(2, false), api.OK)
		was := look(g)
		for _, n := range wrong {
			for node := range 3 {
				must(t, "Send", g.Send(node, n, []byte("x")), api.ErrArg)
				must(t, "Send", g.Send(n, node, []byte("x")), api.ErrArg)
			}
			must(t, "Send", g.Send(n, n, nil), api.ErrArg)
		}
		for node := range 3 {
			must(t, "Send from one that is not up", g.Send(2, node, []byte("x")), api.ErrNone)
		}
		if look(g) != was {
			t.Errorf("refused calls changed the bag from %s to %s", was, look(g))
		}
	}
}

func TestSendToOneThatIsNotUp(t *testing.T) {
	g := fresh(t, 2, 2)
	must(t, "Set", g.Set(1, false), api.OK)
	must(t, "Send", g.Send(0, 1, []byte("a")), api.OK)
	has(t, g, "01a")
	counts(t, g, 1, 0, 0)
	must(t, "Set", g.Set(1, true), api.OK)
	takes(t, g, 0, "01a")
}

func TestSendToFullBag(t *testing.T) {
	for most := 1; most <= 4; most++ {
		g := letters(t, most, "abcd"[:most])
		for i := range 5 {
			must(t, "Send", g.Send(1, 2, []byte("x")), api.ErrMany)
			counts(t, g, most, 0, i+1)
		}
		takes(t, g, 0, "01a")
		must(t, "Send", g.Send(1, 2, []byte("y")), api.OK)
		must(t, "Send", g.Send(1, 2, []byte("z")), api.ErrMany)
		if l := g.All(); told(l[most-1]) != "12y" {
			t.Error(l)
		}
		counts(t, g, most+1, 1, 6)
	}
}

func TestLargestBag(t *testing.T) {
	g := fresh(t, api.MaxNodes, api.MaxBag)
	var want []string
	for i := range api.MaxBag {
		from, to := i%api.MaxNodes, i/api.MaxNodes%api.MaxNodes
		must(t, "Send", g.Send(from, to, []byte(fmt.Sprint(i))), api.OK)
		want = append(want, fmt.Sprintf("%d%d%d", from, to, i))
	}
	has(t, g, want...)
	must(t, "Send", g.Send(0, 0, nil), api.ErrMany)
	says(t, "Twice", g.Twice(0), false)
	says(t, "Move", g.Move(api.MaxBag-1, 0), true)
	takes(t, g, 0, want[api.MaxBag-1])
	says(t, "Twice", g.Twice(0), true)
	takes(t, g, api.MaxBag-1, want[0])
	counts(t, g, api.MaxBag+1, 2, 1)
}

func TestSetAndUp(t *testing.T) {
	for nodes := 1; nodes <= api.MaxNodes; nodes++ {
		g := fresh(t, nodes, 1)
		want := make([]bool, nodes)
		for i := range want {
			want[i] = true
		}
		for i, c := range memtest.Mixed(200) {
			node, up := int(c)%nodes, i%3 == 0
			must(t, "Set", g.Set(node, up), api.OK)
			want[node] = up
			for n, up := range want {
				says(t, fmt.Sprint("Up ", n), g.Up(n), up)
			}
		}
		has(t, g)
		counts(t, g, 0, 0, 0)
	}
}

func TestSetAndUpOfNone(t *testing.T) {
	for nodes := 1; nodes <= api.MaxNodes; nodes++ {
		g := fresh(t, nodes, 1)
		wrong := []int{-1, -nodes, nodes, nodes + 1, api.MaxNodes, api.MaxNodes + 1, 1 << 32, math.MinInt, math.MaxInt}
		was := look(g)
		for _, n := range wrong {
			must(t, "Set", g.Set(n, true), api.ErrArg)
			says(t, "Up", g.Up(n), false)
			must(t, "Set", g.Set(n, false), api.ErrArg)
			says(t, "Up", g.Up(n), false)
		}
		if look(g) != was {
			t.Errorf("calls for nodes that are none changed the bag to %s", look(g))
		}
	}
}

func TestSetKeepsTheMessages(t *testing.T) {
	g := build(t, 2, 4, "01a", "10b", "00c")
	for _, up := range []bool{false, false, true, true} {
		must(t, "Set", g.Set(0, up), api.OK)
		must(t, "Set", g.Set(1, up), api.OK)
		has(t, g, "01a", "10b", "00c")
		counts(t, g, 3, 0, 0)
	}
}

// P7.2

func TestExample(t *testing.T) {
	g := fresh(t, 2, 10)
	must(t, "Send", g.Send(0, 1, []byte{5}), api.OK)
	says(t, "Twice", g.Twice(0), true)
	if m, ok := g.Take(1); g.Len() != 1 || !ok || m.From != 0 || m.To != 1 || !bytes.Equal(m.Data, []byte{5}) {
		t.Error(g.Len(), m, ok)
	}
}

func TestWrongIndices(t *testing.T) {
	for n := range 4 {
		g := letters(t, 6, "abc"[:n])
		was := look(g)
		for _, i := range []int{n, n + 1, -1, -n - 1, 512, 1 << 32, math.MinInt, math.MaxInt} {
			takesNone(t, g, i)
			says(t, "Lose", g.Lose(i), false)
			says(t, "Twice", g.Twice(i), false)
			for j := -1; j <= n; j++ {
				says(t, "Move from none", g.Move(i, j), false)
				says(t, "Move to none", g.Move(j, i), false)
			}
			says(t, "Move of none", g.Move(i, i), false)
		}
		if look(g) != was {
			t.Errorf("calls with wrong indices changed the bag from %s to %s", was, look(g))
		}
	}
}

func TestTake(t *testing.T) {
	g := build(t, 3, 4, "01a", "12b", "20c", "02d")
	takes(t, g, 2, "20c")
	has(t, g, "01a", "12b", "02d")
	takes(t, g, 0, "01a")
	has(t, g, "12b", "02d")
	takes(t, g, 1, "02d")
	has(t, g, "12b")
	takes(t, g, 0, "12b")
	has(t, g)
	takesNone(t, g, 0)
	counts(t, g, 4, 4, 0)
}

func TestTakeForOneThatIsNotUp(t *testing.T) {
	g := build(t, 3, 4, "01a", "12b", "21c", "10d")
	must(t, "Set", g.Set(1, false), api.OK)
	takesNone(t, g, 0)
	has(t, g, "12b", "21c", "10d")
	counts(t, g, 4, 0, 1)
	takes(t, g, 0, "12b") // its sender is not up, which does not count
	takes(t, g, 1, "10d")
	takesNone(t, g, 0)
	has(t, g)
	counts(t, g, 4, 2, 2)
}

func TestLose(t *testing.T) {
	g := build(t, 3, 4, "01a", "12b", "20c", "02d")
	must(t, "Set", g.Set(2, false), api.OK)
	says(t, "Lose", g.Lose(1), true)
	has(t, g, "01a", "20c", "02d")
	says(t, "Lose", g.Lose(2), true)
	has(t, g, "01a", "20c")
	says(t, "Lose", g.Lose(0), true)
	has(t, g, "20c")
	counts(t, g, 4, 0, 3)
	says(t, "Lose", g.Lose(0), true)
	says(t, "Lose", g.Lose(0), false)
	has(t, g)
	counts(t, g, 4, 0, 4)
}

func TestTwice(t *testing.T) {
	g := build(t, 3, 6, "01a", "12b", "20c")
	must(t, "Set", g.Set(1, false), api.OK)
	says(t, "Twice", g.Twice(1), true) // its sender is not up, which does not count
	has(t, g, "01a", "12b", "20c", "12b")
	says(t, "Twice", g.Twice(0), true)
	says(t, "Twice", g.Twice(3), true)
	has(t, g, "01a", "12b", "20c", "12b", "01a", "12b")
	counts(t, g, 6, 0, 0)
	for i := range 6 {
		says(t, "Twice in a full bag", g.Twice(i), false)
	}
	has(t, g, "01a", "12b", "20c", "12b", "01a", "12b")
	counts(t, g, 6, 0, 0)
	says(t, "Lose", g.Lose(1), true)
	says(t, "Twice", g.Twice(1), true)
	has(t, g, "01a", "20c", "12b", "01a", "12b", "20c")
	counts(t, g, 7, 0, 1)
}

func TestMove(t *testing.T) {
	for _, c := range []struct {
		i, j int
		want string
	}{
		{0, 0, "abcd"}, {0, 1, "bacd"}, {0, 2, "bcad"}, {0, 3, "bcda"},
		{1, 0, "bacd"}, {1, 1, "abcd"}, {1, 2, "acbd"}, {1, 3, "acdb"},
		{2, 0, "cabd"}, {2, 1, "acbd"}, {2, 2, "abcd"}, {2, 3, "abdc"},
		{3, 0, "dabc"}, {3, 1, "adbc"}, {3, 2, "abdc"}, {3, 3, "abcd"},
	} {
		for _, most := range []int{4, 5, 9} {
			g := letters(t, most, "abcd")
			says(t, "Move", g.Move(c.i, c.j), true)
			order := ""
			for _, m := range g.All() {
				order += string(m.Data)
			}
			if order != c.want {
				t.Errorf("after Move(%d, %d) the order is %q, want %q", c.i, c.j, order, c.want)
			}
			counts(t, g, 4, 0, 0)
		}
	}
}

func TestMoveKeepsTheMessage(t *testing.T) {
	g := build(t, 3, 4, "01ab", "12", "20c")
	must(t, "Set", g.Set(0, false), api.OK)
	must(t, "Set", g.Set(1, false), api.OK)
	says(t, "Move", g.Move(0, 2), true)
	has(t, g, "12", "20c", "01ab")
	says(t, "Move", g.Move(1, 0), true)
	has(t, g, "20c", "12", "01ab")
	counts(t, g, 3, 0, 0)
}

// P7.3

func TestQueriesChangeNothing(t *testing.T) {
	g := build(t, 3, 4, "01a", "12b", "20c")
	takes(t, g, 0, "01a")
	says(t, "Lose", g.Lose(0), true)
	was := look(g)
	for range 3 {
		if look(g) != was {
			t.Errorf("queries changed the bag from %s to %s", was, look(g))
		}
	}
	counts(t, g, 3, 1, 1)
}

func TestCounts(t *testing.T) {
	g := letters(t, 3, "ab")
	counts(t, g, 2, 0, 0)
	says(t, "Twice", g.Twice(1), true)
	counts(t, g, 3, 0, 0)
	must(t, "Send", g.Send(0, 1, nil), api.ErrMany)
	counts(t, g, 3, 0, 1)
	says(t, "Twice", g.Twice(1), false)
	counts(t, g, 3, 0, 1)
	takes(t, g, 0, "01a")
	counts(t, g, 3, 1, 1)
	says(t, "Lose", g.Lose(0), true)
	counts(t, g, 3, 1, 2)
	must(t, "Set", g.Set(1, false), api.OK)
	takesNone(t, g, 0)
	counts(t, g, 3, 1, 3)
	takesNone(t, g, 0)
	must(t, "Send", g.Send(1, 0, nil), api.ErrNone)
	must(t, "Send", g.Send(0, 3, nil), api.ErrArg)
	counts(t, g, 3, 1, 3)
}

// The rules of memory

func TestMemoryOfSend(t *testing.T) {
	for _, data := range [][]byte{nil, []byte("a"), []byte("hello"), memtest.Mixed(5000)} {
		g := fresh(t, 2, 4)
		b := memtest.Roomy(data, 0xee)
		must(t, "Send", g.Send(0, 1, b), api.OK)
		must(t, "Send", g.Send(0, 1, b), api.OK)
		says(t, "Twice", g.Twice(0), true)
		for _, m := range g.All() {
			memtest.Check(t, m.Data, b, data, 0xee)
		}
		clear(b[:cap(b)])
		for range 3 {
			m, ok := g.Take(0)
			if !ok || !bytes.Equal(m.Data, data) || memtest.Shared(m.Data, b) {
				t.Errorf("a message of %d bytes changed with the argument", len(data))
			}
		}
	}
}

// TestSendKeepsNothingOfEmptyArguments looks at where an empty slice stands: a bag that keeps it keeps all of the memory there.
func TestSendKeepsNothingOfEmptyArguments(t *testing.T) {
	b := make([]byte, 0, 1<<16)
	g := fresh(t, 2, 4)
	must(t, "Send", g.Send(0, 1, b), api.OK)
	says(t, "Twice", g.Twice(0), true)
	for _, m := range g.msgs {
		if unsafe.SliceData(m.Data) == unsafe.SliceData(b) {
			t.Error("the bag keeps the memory of an empty argument")
		}
	}
}

func TestMemoryOfAll(t *testing.T) {
	g := letters(t, 5, "aab")
	says(t, "Twice", g.Twice(2), true)
	first, second := g.All(), g.All()
	if memtest.Shared(first, second) || memtest.Shared(first, g.msgs) {
		t.Error("the lists of two results share memory")
	}
	all := append(slices.Clone(first), second...)
	for len(all) > 0 {
		m := all[0]
		all = all[1:]
		for _, other := range all {
			if memtest.Shared(m.Data, other.Data) {
				t.Error("two messages of results share memory")
			}
		}
		m.Data[0] = 'x'
		clear(m.Data[:cap(m.Data)])
	}
	for i := range first {
		first[i] = api.Msg{From: 9, To: 9}
	}
	_ = append(first, api.Msg{From: 9})
	has(t, g, "01a", "01a", "01b", "01b")
}

func TestMemoryOfTake(t *testing.T) {
	g := letters(t, 6, "ab")
	for range 4 {
		says(t, "Twice", g.Twice(0), true)
	}
	listed := g.All()
	var taken []api.Msg
	for g.Len() > 0 {
		m, _ := g.Take(g.Len() - 1)
		for _, other := range slices.Concat(taken, listed, g.msgs) {
			if memtest.Shared(m.Data, other.Data) {
				t.Error("a message that was taken shares memory with another")
			}
		}
		taken = append(taken, m)
		m.Data[0] = 'x'
		clear(m.Data[:cap(m.Data)])
		if g.Len() == 2 {
			has(t, g, "01a", "01b")
		}
	}
}

// TestRemovedMessagesAreNotKept looks behind the messages of a bag: bytes that are there still could never be told again.
func TestRemovedMessagesAreNotKept(t *testing.T) {
	g := letters(t, 6, "abcdef")
	says(t, "Lose", g.Lose(1), true)
	takes(t, g, 0, "01a")
	must(t, "Set", g.Set(1, false), api.OK)
	takesNone(t, g, 3)
	for _, m := range g.msgs[:cap(g.msgs)][g.Len():] {
		if m.Data != nil {
			t.Errorf("the bag keeps %q", m.Data)
		}
	}
}

func TestLongMessages(t *testing.T) {
	g := fresh(t, 2, 3)
	b := memtest.Mixed(api.MaxBytes * 2)
	must(t, "Send", g.Send(0, 1, b), api.OK)
	says(t, "Twice", g.Twice(0), true)
	if m, ok := g.Take(1); !ok || !bytes.Equal(m.Data, b) {
		t.Error("a long message changed on its way")
	}
}
