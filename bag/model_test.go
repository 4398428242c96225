package bag

import (
	"fmt"
	"slices"
	"testing"

	"gristmill/api"
	"gristmill/internal/memtest"
)

// P7.4, and all promises together

// letter is a message as the words of the chapter tell of it; its fate is where it is now.
type letter struct {
	from, to int
	data     string
	fate     string // "transit", "taken" or "lost"
}

// model is a bag by the words of the chapter: it keeps every message that ever was, and counts them anew each time.
type model struct {
	nodes, most int
	down        map[int]bool
	added       []*letter
	transit     []*letter
	refused     int
}

// act is a call on a bag.
type act struct {
	what string
	i, j int
	data string
	up   bool
}

// answer is all that a call can return.
type answer struct {
	e   api.Errno
	ok  bool
	msg string
}

func (a act) on(g *Bag) answer {
	switch a.what {
	case "send":
		return answer{e: g.Send(a.i, a.j, []byte(a.data))}
	case "set":
		return answer{e: g.Set(a.i, a.up)}
	case "take":
		m, ok := g.Take(a.i)
		return answer{ok: ok, msg: told(m)}
	case "lose":
		return answer{ok: g.Lose(a.i)}
	case "twice":
		return answer{ok: g.Twice(a.i)}
	}
	return answer{ok: g.Move(a.i, a.j)}
}

func (m *model) do(a act) answer {
	switch a.what {
	case "send":
		return answer{e: m.send(a)}
	case "set":
		if a.i < 0 || a.i >= m.nodes {
			return answer{e: api.ErrArg}
		}
		m.down[a.i] = !a.up
		return answer{}
	}
	none := answer{}
	if a.what == "take" {
		none.msg = "00"
	}
	if a.i < 0 || a.i >= len(m.transit) {
		return none
	}
	l := m.transit[a.i]
	switch a.what {
	case "take":
		m.transit = m.without(a.i)
		l.fate = "taken"
		if m.down[l.to] {
			l.fate = "lost"
			return none
		}
		return answer{ok: true, msg: fmt.Sprintf("%d%d%s", l.from, l.to, l.data)}
	case "lose":
		m.transit = m.without(a.i)
		l.fate = "lost"
	case "twice":
		if len(m.transit) == m.most {
			return none
		}
		m.put(l.from, l.to, l.data)
	case "move":
		if a.j < 0 || a.j >= len(m.transit) {
			return none
		}
		others := m.without(a.i)
		m.transit = slices.Concat(others[:a.j], []*letter{l}, others[a.j:])
	}
	return answer{ok: true}
}

func (m *model) send(a act) api.Errno {
	if a.i < 0 || a.i >= m.nodes || a.j < 0 || a.j >= m.nodes {
		return api.ErrArg
	}
	if m.down[a.i] {
		return api.ErrNone
	}
	if len(m.transit) == m.most {
		m.refused++
		return api.ErrMany
	}
	m.put(a.i, a.j, a.data)
	return api.OK
}

func (m *model) put(from, to int, data string) {
	l := &letter{from, to, data, "transit"}
	m.added = append(m.added, l)
	m.transit = slices.Concat(m.transit, []*letter{l})
}

func (m *model) without(i int) []*letter {
	return slices.Concat(m.transit[:i], m.transit[i+1:])
}

func (m *model) fates(fate string) int {
	n := 0
	for _, l := range m.added {
		if l.fate == fate {
			n++
		}
	}
	return n
}

// differs tells where a bag is not as the model, or is empty.
func (m *model) differs(g *Bag) string {
	for node := -1; node <= api.MaxNodes; node++ {
		if up := node >= 0 && node < m.nodes && !m.down[node]; g.Up(node) != up {
			return fmt.Sprintf("Up(%d) = %t", node, g.Up(node))
		}
	}
	l := g.All()
	if len(l) != len(m.transit) || g.Len() != len(l) {
		return fmt.Sprintf("%d messages, Len %d, want %d", len(l), g.Len(), len(m.transit))
	}
	for i, x := range m.transit {
		if want := fmt.Sprintf("%d%d%s", x.from, x.to, x.data); told(l[i]) != want {
			return fmt.Sprintf("message %d is %q, want %q", i, told(l[i]), want)
		}
	}
	taken, lost := m.fates("taken"), m.fates("lost")
	if a, b, c := g.Counts(); a != len(m.added) || b != taken || c != lost+m.refused {
		return fmt.Sprintf("Counts() = %d, %d, %d, want %d, %d, %d", a, b, c, len(m.added), taken, lost+m.refused)
	}
	if len(m.transit)+taken+lost != len(m.added) {
		return "the model has lost a message out of sight"
	}
	return ""
}

// pair is a bag and its model, on which the same calls are made.
type pair struct {
	g *Bag
	m *model
}

func newPair(t testing.TB, nodes, most int) pair {
	t.Helper()
	return pair{fresh(t, nodes, most), &model{nodes: nodes, most: most, down: map[int]bool{}}}
}

// call makes a call on both and reports an answer that differs.
func (p pair) call(t testing.TB, a act, where string) {
	t.Helper()
	if got, want := a.on(p.g), p.m.do(a); got != want {
		t.Errorf("%s: %+v returned %+v, want %+v", where, a, got, want)
	}
}

// compare reports where the two differ.
func (p pair) compare(t testing.TB, where string) {
	t.Helper()
	if s := p.m.differs(p.g); s != "" {
		t.Errorf("%s: %s", where, s)
	}
}

// few are the calls of which all short runs are tried, on a bag of two nodes.
func few() []act {
	return []act{
		{what: "send", i: 0, j: 1, data: "a"},
		{what: "send", i: 1, j: 0, data: "bc"},
		{what: "set", i: 1},
		{what: "set", i: 1, up: true},
		{what: "take", i: 0},
		{what: "take", i: 1},
		{what: "lose", i: 1},
		{what: "twice", i: 0},
		{what: "move", i: 0, j: 1},
		{what: "move", i: 2, j: 0},
	}
}

// TestShortRuns tries every run of up to five of the few calls, on bags of one to four messages.
func TestShortRuns(t *testing.T) {
	calls := few()
	runs := 1
	for long := 1; long <= 5; long++ {
		runs *= len(calls)
		for run := 0; run < 4*runs && !t.Failed(); run++ {
			most := 1 + run/runs
			p := newPair(t, 2, most)
			where := fmt.Sprintf("run %d of %d calls, most %d", run%runs, long, most)
			for i, rest := 0, run%runs; i < long; i, rest = i+1, rest/len(calls) {
				p.call(t, calls[rest%len(calls)], where)
			}
			p.compare(t, where)
		}
	}
}

// drawn is a call made of some bytes.
func drawn(b []byte) act {
	kinds := []string{"send", "send", "send", "send", "send", "set", "take", "take", "lose", "twice", "twice", "move", "move"}
	a := act{what: kinds[int(b[0])%len(kinds)], i: int(b[1])%8 - 1, j: int(b[2])%8 - 1, up: b[3]%4 > 0}
	a.data = string(b[4 : 4+int(b[4])%6])
	return a
}

// TestLongRuns makes many calls on bags of all sizes.
func TestLongRuns(t *testing.T) {
	const width = 12
	b := memtest.Mixed(width * 1000)
	for nodes := 1; nodes <= api.MaxNodes; nodes++ {
		for _, most := range []int{1, 2, 3, 5, 8, 40} {
			p := newPair(t, nodes, most)
			for i := (nodes + most) % width; i+width < len(b) && !t.Failed(); i += width {
				a := drawn(b[i:])
				where := fmt.Sprintf("%d nodes, most %d, call %d, %+v", nodes, most, i/width, a)
				p.call(t, a, where)
				p.compare(t, where)
			}
		}
	}
}
