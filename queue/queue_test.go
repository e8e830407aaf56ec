package queue_test

import (
	"fmt"
	"math"
	"slices"
	"testing"

	"septum/api"
	"septum/frame"
	"septum/list"
	"septum/queue"
	"septum/word"
)

// most is how many accesses a call of this layer may do.
const most = 60

// top is the greatest priority.
const top = api.Levels - 1

// spot is what First and After answer: a node, its priority, and whether there is one.
type spot struct {
	n, priority int
	ok          bool
}

// none is the answer that there is none.
var none = spot{}

// filled makes a memory that holds the given words.
func filled(words ...int64) *word.Mem {
	m := word.New(len(words))
	for a, v := range words {
		m.Store(a, v)
	}
	return m
}

// strange makes so many words that are no addresses, each another one.
func strange(size int) []int64 {
	words := make([]int64, size)
	for a := range words {
		words[a] = -1000 - int64(a)
	}
	return words
}

// holds fails the test, unless m holds just the given words.
func holds(t *testing.T, m *word.Mem, want []int64) {
	t.Helper()
	got := m.Words()
	if len(got) != len(want) {
		t.Fatalf("%d words, want %d", len(got), len(want))
	}
	for a := range want {
		if got[a] != want[a] {
			t.Errorf("word %d: %d, want %d", a, got[a], want[a])
		}
	}
}

// play plays one call to its end, and answers how many accesses it did: at most most.
func play(t *testing.T, m *word.Mem, body frame.Body) int {
	t.Helper()
	f := frame.New(m)
	for now := range 500 {
		if f.Step(now, body) {
			if f.Steps() > most {
				t.Errorf("%d accesses in one call", f.Steps())
			}
			return f.Steps()
		}
	}
	t.Fatal("the body is not done")
	return 0
}

// The calls as bodies.

func initial(at int) frame.Body { return func(f *frame.Frame) { queue.Init(f, at) } }
func adds(at, n, priority int) frame.Body {
	return func(f *frame.Frame) { queue.Add(f, at, n, priority) }
}
func addsFirst(at, n, priority int) frame.Body {
	return func(f *frame.Frame) { queue.AddFirst(f, at, n, priority) }
}
func drops(at, n, priority int) frame.Body {
	return func(f *frame.Frame) { queue.Drop(f, at, n, priority) }
}

// first and after answer what the calls do, each in a frame of its own.

func first(t *testing.T, m *word.Mem, at int) spot {
	t.Helper()
	s := spot{-1, -1, true}
	play(t, m, func(f *frame.Frame) { s.n, s.priority, s.ok = queue.First(f, at) })
	return s
}

func after(t *testing.T, m *word.Mem, at, n, priority int) spot {
	t.Helper()
	s := spot{-1, -1, true}
	play(t, m, func(f *frame.Frame) { s.n, s.priority, s.ok = queue.After(f, at, n, priority) })
	return s
}

// read reads a queue by First and After, each in a frame of its own.
func read(t *testing.T, m *word.Mem, at int) []spot {
	t.Helper()
	var all []spot
	s := first(t, m, at)
	for s.ok && len(all) < 100 {
		all = append(all, s)
		s = after(t, m, at, s.n, s.priority)
	}
	if s != none {
		t.Errorf("queue %d: %v at the end", at, s)
	}
	return all
}

// readAtOnce reads a queue by one body.
func readAtOnce(t *testing.T, m *word.Mem, at int) []spot {
	t.Helper()
	var all []spot
	frame.Run(m, func(f *frame.Frame) {
		all = nil
		for n, p, ok := queue.First(f, at); ok && len(all) < 100; n, p, ok = queue.After(f, at, n, p) {
			all = append(all, spot{n, p, true})
		}
	}, 500)
	return all
}

// levels are a queue's nodes as they should stand, by priority.
type levels [api.Levels][]int

// order is the queue's order.
func (l *levels) order() []spot {
	var all []spot
	for p := top; p >= 0; p-- {
		for _, n := range l[p] {
			all = append(all, spot{n, p, true})
		}
	}
	return all
}

// lay writes a queue's word, its heads and its nodes, as they should be, into words.
func (l *levels) lay(words []int64, at int) {
	words[at] = 0
	for p, nodes := range l {
		if len(nodes) > 0 {
			words[at] += 1 << p
		}
		ring := append([]int{at + 1 + 2*p}, nodes...)
		for i, n := range ring {
			next := ring[(i+1)%len(ring)]
			words[n], words[next+1] = int64(next), int64(n)
		}
	}
}

// model is queues of one memory as they should stand.
type model struct {
	mem    *word.Mem
	ats    []int
	queues []levels
	free   []int
}

// newModel makes so many queues without nodes, with nodes that stand in none of them, ahead,
// between and behind, and words that belong to nobody all around.
func newModel(t *testing.T, queues, nodes int) *model {
	t.Helper()
	s := &model{queues: make([]levels, queues)}
	a := 1
	for i := range max(queues, nodes) {
		if i < nodes {
			s.free = append(s.free, a)
			a += list.Words + 1
		}
		if i < queues {
			s.ats = append(s.ats, a)
			a += queue.Words + 1
		}
	}
	words := strange(a)
	for _, n := range s.free {
		words[n], words[n+1] = int64(n), int64(n)
	}
	s.mem = filled(words...)
	for _, at := range s.ats {
		play(t, s.mem, initial(at))
	}
	return s
}

// clone answers a model of its own with the same words and nodes.
func (s *model) clone() *model {
	c := &model{mem: filled(s.mem.Words()...), ats: s.ats, free: slices.Clone(s.free)}
	c.queues = slices.Clone(s.queues)
	for q := range c.queues {
		for p := range c.queues[q] {
			c.queues[q][p] = slices.Clone(c.queues[q][p])
		}
	}
	return c
}

// add adds the next free node by Add, or by AddFirst, and answers it.
func (s *model) add(t *testing.T, q, priority int, firstOne bool) int {
	t.Helper()
	n := s.free[0]
	s.free = s.free[1:]
	nodes := &s.queues[q][priority]
	if firstOne {
		play(t, s.mem, addsFirst(s.ats[q], n, priority))
		*nodes = slices.Insert(*nodes, 0, n)
	} else {
		play(t, s.mem, adds(s.ats[q], n, priority))
		*nodes = append(*nodes, n)
	}
	return n
}

// drop drops the k-th node of a queue's order.
func (s *model) drop(t *testing.T, q, k int) {
	t.Helper()
	gone := s.queues[q].order()[k]
	play(t, s.mem, drops(s.ats[q], gone.n, gone.priority))
	nodes := &s.queues[q][gone.priority]
	i := slices.Index(*nodes, gone.n)
	*nodes = slices.Delete(*nodes, i, i+1)
	s.free = append(s.free, gone.n)
}

// check fails the test, unless every word is as the model says, and First and After read it so,
// and change nothing.
func (s *model) check(t *testing.T, how ...any) {
	t.Helper()
	want := strange(s.mem.Len())
	for _, n := range s.free {
		want[n], want[n+1] = int64(n), int64(n)
	}
	for q := range s.queues {
		s.queues[q].lay(want, s.ats[q])
	}
	holds(t, s.mem, want)
	for q, at := range s.ats {
		order := s.queues[q].order()
		if got := read(t, s.mem, at); !slices.Equal(got, order) {
			t.Errorf("queue %d: %v, want %v", at, got, order)
		}
		if got := readAtOnce(t, s.mem, at); !slices.Equal(got, order) {
			t.Errorf("queue %d, at once: %v, want %v", at, got, order)
		}
	}
	holds(t, s.mem, want)
	if t.Failed() {
		t.Fatal(how...)
	}
}

// P6.1, Words: a word, and a list's head for each priority.
func TestWords(t *testing.T) {
	if queue.Words != 33 {
		t.Error(queue.Words)
	}
}

// P6.1: Init, at all places of a memory, whatever stood there: the word is 0, each head stands
// alone, and no other word is touched.
func TestInit(t *testing.T) {
	for at := range 9 {
		words := strange(queue.Words + 8)
		m := filled(words...)
		play(t, m, initial(at))
		words[at] = 0
		for p := range api.Levels {
			h := at + 1 + 2*p
			words[h], words[h+1] = int64(h), int64(h)
		}
		holds(t, m, words)
		if got := first(t, m, at); got != none {
			t.Errorf("First of an empty queue at %d: %v", at, got)
		}
		holds(t, m, words)
	}
}

// P6.1: Init of a queue that had nodes: it is empty, and the nodes' words are as they were.
func TestInitAnew(t *testing.T) {
	s := newModel(t, 1, 3)
	for _, p := range []int{0, 9, top} {
		s.add(t, 0, p, false)
	}
	words := s.mem.Words()
	play(t, s.mem, initial(s.ats[0]))
	new(levels).lay(words, s.ats[0])
	holds(t, s.mem, words)
	if got := first(t, s.mem, s.ats[0]); got != none {
		t.Error(got)
	}
}

// P6.1, the example: Add a of 3, b of 7, c of 3: b, a, c.
func TestExample(t *testing.T) {
	const a, b, c = queue.Words, queue.Words + 2, queue.Words + 4
	m := word.New(queue.Words + 6)
	play(t, m, initial(0))
	play(t, m, adds(0, a, 3))
	play(t, m, adds(0, b, 7))
	play(t, m, adds(0, c, 3))
	if got := read(t, m, 0); !slices.Equal(got, []spot{{b, 7, true}, {a, 3, true}, {c, 3, true}}) {
		t.Error(got)
	}
	words := m.Words()
	if words[0] != 1<<3|1<<7 {
		t.Errorf("bits %b", words[0])
	}
	// The heads of 3 and of 7, and the nodes: each one's next and the one ahead of it.
	for at, want := range map[int][2]int64{7: {a, c}, 15: {b, b}, a: {c, 7}, b: {15, 15}, c: {7, a}} {
		if words[at] != want[0] || words[at+1] != want[1] {
			t.Errorf("words at %d: %v", at, words[at:at+2])
		}
	}
}

// P6.1: one node of each priority, 0 and Levels - 1 among them, alone in its queue: its bit, its
// head and it; behind Drop the queue is as Init made it.
func TestEachPriorityAlone(t *testing.T) {
	for p := range api.Levels {
		for _, firstOne := range []bool{false, true} {
			s := newModel(t, 1, 1)
			empty := s.mem.Words()
			n := s.add(t, 0, p, firstOne)
			if got, _ := s.mem.Load(s.ats[0]); got != 1<<p {
				t.Errorf("priority %d: bits %b", p, got)
			}
			if got := first(t, s.mem, s.ats[0]); got != (spot{n, p, true}) {
				t.Errorf("priority %d: First %v", p, got)
			}
			if got := after(t, s.mem, s.ats[0], n, p); got != none {
				t.Errorf("priority %d: After %v", p, got)
			}
			s.check(t, p, firstOne)
			s.drop(t, 0, 0)
			s.check(t, p, firstOne, "dropped")
			holds(t, s.mem, empty)
		}
	}
}

// P6.1: nodes of all priorities at once: the greatest first, whatever the order they came in;
// they go by First and Drop in their order, and by priority from the least on.
func TestAllPrioritiesAtOnce(t *testing.T) {
	for step := 1; step < api.Levels; step += 2 { // coprime with Levels: each priority comes once
		s := newModel(t, 1, 2*api.Levels)
		for i := range 2 * api.Levels {
			s.add(t, 0, (i*step+5)%api.Levels, i >= api.Levels)
			s.check(t, step, i)
		}
		if got, _ := s.mem.Load(s.ats[0]); got != 1<<api.Levels-1 {
			t.Errorf("bits %b", got)
		}
		for i := range 2 * api.Levels {
			last := len(s.queues[0].order()) - 1
			s.drop(t, 0, []int{0, last, last / 2}[(i+step)%3])
			s.check(t, step, "dropped", i)
		}
	}
}

// P6.1: Add is the last one of its priority, AddFirst the first one, with nodes of a greater, a
// lesser and the same priority there.
func TestAddAndAddFirst(t *testing.T) {
	s := newModel(t, 1, 8)
	var n [8]int
	for i, c := range []struct {
		priority int
		firstOne bool
	}{{4, false}, {4, false}, {4, true}, {8, true}, {8, false}, {0, true}, {4, true}, {4, false}} {
		n[i] = s.add(t, 0, c.priority, c.firstOne)
		s.check(t, i)
	}
	want := []spot{{n[3], 8, true}, {n[4], 8, true}, {n[6], 4, true}, {n[2], 4, true},
		{n[0], 4, true}, {n[1], 4, true}, {n[7], 4, true}, {n[5], 0, true}}
	if got := read(t, s.mem, s.ats[0]); !slices.Equal(got, want) {
		t.Errorf("%v, want %v", got, want)
	}
}

// P6.1: the first, the last and one amid the nodes of a priority are dropped: its bit stands
// till the only one goes; the bits of others stand.
func TestDropAndBits(t *testing.T) {
	for _, p := range []int{0, 1, 6, top - 1, top} {
		for _, others := range [][]int{nil, {0}, {top}, {0, 7, top}, {5, 8}} {
			for k := range 3 {
				dropOneThenAll(t, p, others, k)
			}
		}
	}
}

// dropOneThenAll drops the k-th of three nodes of a priority, and then both others.
func dropOneThenAll(t *testing.T, p int, others []int, k int) {
	t.Helper()
	s := newModel(t, 1, 7)
	var bits int64
	for _, o := range others {
		if o != p {
			s.add(t, 0, o, false)
			bits |= 1 << o
		}
	}
	for range 3 {
		s.add(t, 0, p, false)
	}
	for turn, place := range []int{k, 0, 0} {
		gone := s.queues[0][p][place]
		where := slices.Index(s.queues[0].order(), spot{gone, p, true})
		s.drop(t, 0, where)
		s.check(t, p, others, k, turn)
		want := bits
		if turn < 2 {
			want |= 1 << p
		}
		if got, _ := s.mem.Load(s.ats[0]); got != want {
			t.Errorf("bits %b, want %b", got, want)
		}
		if a, _ := s.mem.Load(gone); int(a) != gone {
			t.Errorf("node %d leads to %d", gone, a)
		}
	}
}

// P6.1, Words: a Drop of a node that was dropped already leaves the bits true, with and without
// others of its priority.
func TestDropTwice(t *testing.T) {
	for _, others := range []int{0, 1} {
		s := newModel(t, 1, 3)
		n := s.add(t, 0, 6, false)
		s.add(t, 0, 2, false)
		for range others {
			s.add(t, 0, 6, false)
		}
		s.drop(t, 0, 0)
		play(t, s.mem, drops(s.ats[0], n, 6))
		s.check(t, others)
	}
}

// P6.1: After of each node, of the last one of a priority with and without a lesser one in the
// queue, and of the last one of all. One with a greater priority is never behind.
func TestAfter(t *testing.T) {
	s := newModel(t, 1, 6)
	at := s.ats[0]
	a, b := s.add(t, 0, top, false), s.add(t, 0, top, false)
	c := s.add(t, 0, 7, false)
	d, e := s.add(t, 0, 0, false), s.add(t, 0, 0, false)
	for _, c := range []struct {
		n, priority int
		want        spot
	}{
		{a, top, spot{b, top, true}}, {b, top, spot{c, 7, true}}, {c, 7, spot{d, 0, true}},
		{d, 0, spot{e, 0, true}}, {e, 0, none},
	} {
		if got := after(t, s.mem, at, c.n, c.priority); got != c.want {
			t.Errorf("After of %d of %d: %v, want %v", c.n, c.priority, got, c.want)
		}
	}
	s.drop(t, 0, 2) // c: none between
	if got := after(t, s.mem, at, b, top); got != (spot{d, 0, true}) {
		t.Errorf("After of b: %v", got)
	}
	s.drop(t, 0, 2)
	s.drop(t, 0, 2) // d and e: none that is lesser
	if got := after(t, s.mem, at, b, top); got != none {
		t.Errorf("After of the last one of all: %v", got)
	}
	f := s.add(t, 0, 3, false)
	if got := after(t, s.mem, at, f, 3); got != none {
		t.Errorf("After with greater ones alone: %v", got)
	}
	if got := after(t, s.mem, at, b, top); got != (spot{f, 3, true}) {
		t.Errorf("After of b, again: %v", got)
	}
}

// P6.1: the last one of any priority, and one of any other: behind it, if that is lesser.
func TestAfterForEachTwoPriorities(t *testing.T) {
	for p := range api.Levels {
		for o := range api.Levels {
			if p == o {
				continue
			}
			s := newModel(t, 1, 2)
			n, other := s.add(t, 0, p, false), s.add(t, 0, o, false)
			want := none
			if o < p {
				want = spot{other, o, true}
			}
			if got := after(t, s.mem, s.ats[0], n, p); got != want {
				t.Errorf("%d, then %d: %v", p, o, got)
			}
			s.check(t, p, o)
		}
	}
}

// P6.1: a node at the address 0 is one like others: found, and told from none.
func TestNodeAtZero(t *testing.T) {
	const at, other = 4, 2
	m := word.New(at + queue.Words)
	play(t, m, initial(at))
	play(t, m, adds(at, 0, 0))
	if got := first(t, m, at); got != (spot{0, 0, true}) {
		t.Error("First:", got)
	}
	play(t, m, addsFirst(at, other, 0))
	if got := after(t, m, at, other, 0); got != (spot{0, 0, true}) {
		t.Error("After:", got)
	}
	play(t, m, drops(at, other, 0))
	play(t, m, adds(at, other, 9))
	if got := after(t, m, at, other, 9); got != (spot{0, 0, true}) {
		t.Error("After, of a lesser priority:", got)
	}
	play(t, m, drops(at, 0, 0))
	if got := read(t, m, at); !slices.Equal(got, []spot{{other, 9, true}}) {
		t.Error(got)
	}
}

// P6.1: the last words of the greatest memory are a queue's as others are.
func TestQueueAtTheEnd(t *testing.T) {
	m := word.New(api.MaxWords)
	at := api.MaxWords - queue.Words
	play(t, m, initial(at))
	play(t, m, adds(at, 8, top))
	play(t, m, adds(at, 6, 0))
	if got := read(t, m, at); !slices.Equal(got, []spot{{8, top, true}, {6, 0, true}}) {
		t.Error(got)
	}
	play(t, m, drops(at, 8, top))
	if got := read(t, m, at); !slices.Equal(got, []spot{{6, 0, true}}) {
		t.Error(got)
	}
}

// P6.1: a node that goes from one priority to another, and from one queue to another, by one body.
func TestNodeMoves(t *testing.T) {
	s := newModel(t, 2, 2)
	n := s.add(t, 0, 3, false)
	s.add(t, 0, 3, false)
	move := func(from, of, to, p int) {
		t.Helper()
		play(t, s.mem, func(f *frame.Frame) {
			queue.Drop(f, s.ats[from], n, of)
			queue.AddFirst(f, s.ats[to], n, p)
		})
		i := slices.Index(s.queues[from][of], n)
		s.queues[from][of] = slices.Delete(s.queues[from][of], i, i+1)
		s.queues[to][p] = slices.Insert(s.queues[to][p], 0, n)
		s.check(t, from, of, to, p)
	}
	move(0, 3, 0, top)
	move(0, top, 0, 3)
	move(0, 3, 1, 3)
	move(1, 3, 1, 0)
	move(1, 0, 0, 0)
}

// P6.1: many calls by a rule, of two queues in one memory.
func TestManyCalls(t *testing.T) {
	for seed := range 60 {
		s := newModel(t, 2, 1+seed%12)
		state := uint32(seed)*2654435761 + 1
		draw := func(n int) int {
			state = state*1664525 + 1013904223
			return int(state>>16) % n
		}
		// Few priorities, so that some have several nodes; which ones, the seed says.
		priorities := []int{0, top, draw(api.Levels), draw(api.Levels)}
		for turn := range 60 {
			kind, q, p, which := draw(4), draw(2), priorities[draw(4)], draw(64)
			order := s.queues[q].order()
			switch {
			case kind < 2 && len(s.free) > 0:
				s.add(t, q, p, kind == 1)
			case kind >= 2 && len(order) > 0:
				s.drop(t, q, which%len(order))
			}
			s.check(t, seed, turn, kind, q, p, which)
		}
	}
}

// follow does every order of so many calls, in a model of its own.
func follow(t *testing.T, s *model, how []string, depth int) {
	t.Helper()
	s.check(t, how)
	if depth == 0 {
		return
	}
	for _, p := range []int{0, 6, top} {
		for _, firstOne := range []bool{false, true} {
			c := s.clone()
			c.add(t, 0, p, firstOne)
			follow(t, c, append(slices.Clone(how), fmt.Sprint("add ", p, firstOne)), depth-1)
		}
	}
	for k := range s.queues[0].order() {
		c := s.clone()
		c.drop(t, 0, k)
		follow(t, c, append(slices.Clone(how), fmt.Sprint("drop ", k)), depth-1)
	}
}

// P6.1: every order of five calls, of the priorities 0, 6 and Levels - 1.
func TestEveryOrder(t *testing.T) {
	follow(t, newModel(t, 1, 5), nil, 5)
}

// scene answers a memory with a queue at 4 (top: two nodes, 5: one, 2: two), and one free node at
// the place 2; words of nobody stand ahead and behind.
func scene(t *testing.T) (m *word.Mem, at int, n [5]int, free int) {
	t.Helper()
	at, free = 4, 2
	words := strange(at + queue.Words + 5*list.Words + 3)
	words[free], words[free+1] = int64(free), int64(free)
	m = filled(words...)
	play(t, m, initial(at))
	for i, p := range []int{top, top, 5, 2, 2} {
		n[i] = at + queue.Words + i*list.Words
		play(t, m, adds(at, n[i], p))
	}
	return m, at, n, free
}

// P6.1: a frame that goes off in the midst of First and of After: 0, 0, false with every step but
// the last one, which answers what is.
func TestAnswersGoOff(t *testing.T) {
	m, at, n, _ := scene(t)
	before := m.Words()
	for _, c := range []struct {
		name string
		call func(f *frame.Frame) (int, int, bool)
		want spot
	}{
		{"First", func(f *frame.Frame) (int, int, bool) { return queue.First(f, at) }, spot{n[0], top, true}},
		{"After, same", func(f *frame.Frame) (int, int, bool) { return queue.After(f, at, n[0], top) }, spot{n[1], top, true}},
		{"After, lesser", func(f *frame.Frame) (int, int, bool) { return queue.After(f, at, n[1], top) }, spot{n[2], 5, true}},
		{"After, last", func(f *frame.Frame) (int, int, bool) { return queue.After(f, at, n[4], 2) }, none},
	} {
		var got spot
		body := func(f *frame.Frame) {
			f.Load(0) // so that the first step has none left
			got.n, got.priority, got.ok = c.call(f)
		}
		f := frame.New(m)
		for now := 0; !f.Step(now, body); now++ {
			if got != none {
				t.Errorf("%s, step %d: %v", c.name, now, got)
			}
			if now > most {
				t.Fatalf("%s is not done", c.name)
			}
		}
		if got != c.want || f.Steps() < 2 {
			t.Errorf("%s: %v with %d accesses", c.name, got, f.Steps())
		}
	}
	holds(t, m, before)
}

// P6.1: each call, step by step: one access a step, and behind the last one what one go does,
// also if a word that isn't the queue's changes in between.
func TestCallsGoOff(t *testing.T) {
	_, at, n, free := scene(t)
	for name, call := range map[string]frame.Body{
		"Init": initial(at), "Add": adds(at, free, 5), "Add the only one": adds(at, free, 9),
		"AddFirst": addsFirst(at, free, top), "AddFirst the only one": addsFirst(at, free, 0),
		"Drop": drops(at, n[0], top), "Drop the last one": drops(at, n[4], 2), "Drop the only one": drops(at, n[2], 5),
	} {
		m, _, _, _ := scene(t)
		whole, _, _, _ := scene(t)
		play(t, whole, call)
		nobody, _ := m.Load(0)
		off := false
		body := func(f *frame.Frame) { call(f); off = f.Off() }
		f := frame.New(m)
		for now := 0; ; now++ {
			before := m.Words()
			done := f.Step(now, body)
			if f.Steps() != now+1 || off == done || changed(before, m.Words()) > 1 {
				t.Errorf("%s, step %d: done %t, Off %t, %d accesses", name, now, done, off, f.Steps())
			}
			if done || now > most {
				break
			}
			m.Store(0, int64(now))
		}
		m.Store(0, nobody)
		holds(t, m, whole.Words())
	}
}

// changed tells how many words are others.
func changed(before, behind []int64) int {
	n := 0
	for a := range before {
		if before[a] != behind[a] {
			n++
		}
	}
	return n
}

// everyOff does every call with a frame that is off.
func everyOff(t *testing.T, f *frame.Frame, at, n, priority int) {
	t.Helper()
	var s spot
	if s.n, s.priority, s.ok = queue.First(f, at); s != none {
		t.Errorf("First of %d: %v", at, s)
	}
	if s.n, s.priority, s.ok = queue.After(f, at, n, priority); s != none {
		t.Errorf("After of %d, %d, %d: %v", at, n, priority, s)
	}
	queue.Add(f, at, n, priority)
	queue.AddFirst(f, at, n, priority)
	queue.Drop(f, at, n, priority)
	queue.Init(f, at)
}

// P6.1: calls behind the step's access: they go off, answer that there is none, and do nothing.
func TestFrameIsOff(t *testing.T) {
	m, at, n, free := scene(t)
	before := m.Words()
	for name, call := range map[string]frame.Body{
		"Init": initial(at), "Add": adds(at, free, 5), "AddFirst": addsFirst(at, free, 5), "Drop": drops(at, n[2], 5),
		"First": func(f *frame.Frame) { queue.First(f, at) },
		"After": func(f *frame.Frame) { queue.After(f, at, n[0], top) },
		"all": func(f *frame.Frame) {
			everyOff(t, f, at, n[0], top)
			everyOff(t, f, at, n[2], 5)
		},
	} {
		f, ran := frame.New(m), false
		done := f.Step(0, func(f *frame.Frame) {
			f.Load(0)
			call(f)
			ran = f.Off()
		})
		if done || !ran || f.Steps() != 1 {
			t.Errorf("%s: done %t, off %t, %d accesses", name, done, ran, f.Steps())
		}
		holds(t, m, before)
	}
}

// noPriorities are some that are none.
var noPriorities = []int{-1, -2, -api.Levels, api.Levels, api.Levels + 1, 31, 32, 33, 63, 64, 65, -64,
	1 << 32, -1 << 32, 1<<32 + 5, math.MaxInt, math.MaxInt - 1, math.MinInt, math.MinInt + 1}

// addresses are some of a memory of 60 words, and some that are none.
var addresses = []int{0, 1, 7, 26, 27, 28, 58, 59, 60, 61, 3999, 4000, -1, -2, -33, -34, -4000, 1 << 32,
	math.MaxInt, math.MaxInt - 1, math.MaxInt - 33, math.MinInt, math.MinInt + 1}

// P6.1: of a priority that is none nothing is done, and nothing found: no access, no word, and
// no frame that goes off.
func TestPriorityThatIsNone(t *testing.T) {
	m, at, n, free := scene(t)
	before := m.Words()
	for _, p := range noPriorities {
		for _, node := range []int{free, n[0], n[2], n[4], 0} {
			for name, call := range map[string]frame.Body{
				"Add": adds(at, node, p), "AddFirst": addsFirst(at, node, p), "Drop": drops(at, node, p),
			} {
				if did := play(t, m, call); did != 0 {
					t.Errorf("%s of %d: %d accesses", name, p, did)
				}
			}
			if got := after(t, m, at, node, p); got != none {
				t.Errorf("After of %d of %d: %v", node, p, got)
			}
		}
		f, off := frame.New(m), true
		f.Step(0, func(f *frame.Frame) {
			f.Load(0)
			queue.Add(f, at, free, p)
			queue.AddFirst(f, at, free, p)
			queue.Drop(f, at, n[0], p)
			queue.After(f, at, n[0], p)
			off = f.Off()
		})
		if off {
			t.Errorf("priority %d: the frame went off", p)
		}
		holds(t, m, before)
	}
}

// R1, P6.1 with P2.1: a nil frame, and one out of a step, are off: nothing is done or found.
func TestWithoutAStep(t *testing.T) {
	m, at, n, _ := scene(t)
	before := m.Words()
	fresh, over, done := frame.New(m), frame.New(m), frame.New(m)
	over.Step(0, func(f *frame.Frame) { f.Load(0); f.Load(0) })
	done.Step(0, func(f *frame.Frame) { f.Load(0) })
	for _, f := range []*frame.Frame{nil, fresh, over, done, new(frame.Frame)} {
		steps := f.Steps()
		for _, p := range append([]int{0, 2, 5, top}, noPriorities...) {
			everyOff(t, f, at, n[0], p)
			for _, a := range addresses {
				everyOff(t, f, a, a, p)
				everyOff(t, f, at, a, p)
			}
		}
		if f.Steps() != steps {
			t.Errorf("%d accesses", f.Steps()-steps)
		}
		holds(t, m, before)
	}
}

// sound fails the test, unless there is none, with zeros beside it, or one of a true priority.
func sound(t *testing.T, name string, s spot) {
	t.Helper()
	if !s.ok && s != none || s.priority < 0 || s.priority > top {
		t.Errorf("%s: %v", name, s)
	}
}

// everyCall does every call: each ends, with no more accesses than a call of this layer does.
func everyCall(t *testing.T, m *word.Mem, at, n, priority int) {
	t.Helper()
	read := func() {
		t.Helper()
		sound(t, "First", first(t, m, at))
		sound(t, "After", after(t, m, at, n, priority))
	}
	read()
	for _, call := range []frame.Body{
		drops(at, n, priority), adds(at, n, priority), addsFirst(at, n, priority),
		drops(at, n, priority), drops(at, n, priority), initial(at),
	} {
		play(t, m, call)
		read()
	}
}

// R1, P6.1 with P2.1: of an address that is none a word is 0, and nothing is written: a queue
// that isn't there is empty, and all calls of it, and of nodes that aren't there, end.
func TestAddressThatIsNone(t *testing.T) {
	for _, m := range []*word.Mem{nil, word.New(0), new(word.Mem)} {
		for _, at := range addresses {
			for _, p := range []int{0, 9, top, -1, api.Levels} {
				everyCall(t, m, at, at, p)
				everyCall(t, m, at, 0, p)
			}
			if got := first(t, m, at); got != none {
				t.Errorf("First of %d: %v", at, got)
			}
		}
	}
	for _, at := range addresses {
		for _, n := range addresses {
			everyCall(t, filled(strange(60)...), at, n, 3)
		}
	}
	m := filled(strange(60)...)
	for _, at := range []int{60, 4000, -1000, math.MinInt, math.MaxInt - 100} {
		if got := first(t, m, at); got != none {
			t.Errorf("First of %d: %v", at, got)
		}
		play(t, m, initial(at))
	}
	holds(t, m, strange(60))
}

// R1: calls end, whatever stands in the words: no addresses, rings that never come to their head,
// bits of no priority, bits without nodes, nodes within the queue.
func TestWordsThatAreNoAddresses(t *testing.T) {
	values := []int64{0, 1, 2, 3, 5, 27, 33, 34, 59, 60, -1, 4000, 1 << 40, math.MaxInt64, math.MinInt64, 0x5555}
	state := uint32(1)
	draw := func(n int) int {
		state = state*1664525 + 1013904223
		return int(state>>16) % n
	}
	for range 400 {
		m := word.New(60)
		for a := range 60 {
			m.Store(a, values[draw(len(values))])
		}
		for _, p := range []int{0, 1, 8, top, -1, api.Levels} {
			everyCall(t, m, draw(40), draw(60), p)
			everyCall(t, m, addresses[draw(len(addresses))], addresses[draw(len(addresses))], p)
		}
	}
}

// P6.1, Words: bits from Levels on are of no priority: nothing is found by them.
func TestBitsOfNoPriority(t *testing.T) {
	for _, bits := range []int64{1 << api.Levels, 1 << 31, 1 << 32, 1 << 62, math.MinInt64, -1 << api.Levels} {
		m, at, n, _ := scene(t)
		held, _ := m.Load(at)
		m.Store(at, held|bits)
		if got := first(t, m, at); got != (spot{n[0], top, true}) {
			t.Errorf("First with %x: %v", bits, got)
		}
		if got := after(t, m, at, n[4], 2); got != none {
			t.Errorf("After with %x: %v", bits, got)
		}
		play(t, m, initial(at))
		m.Store(at, bits)
		if got := first(t, m, at); got != none {
			t.Errorf("First of none with %x: %v", bits, got)
		}
	}
}

// R1: a ring that never comes to its head: each After of it ends.
func TestRingWithoutItsHead(t *testing.T) {
	m := word.New(queue.Words + 4)
	const a, b = queue.Words, queue.Words + 2
	play(t, m, initial(0))
	play(t, m, adds(0, a, 4))
	m.Store(a, b)
	m.Store(b, a)
	n := a
	for range 50 {
		got := after(t, m, 0, n, 4)
		if !got.ok || got.priority != 4 || got.n == n {
			t.Fatal(got)
		}
		n = got.n
	}
}

// R2, R3: what a call answers depends on its arguments and its frame's accesses alone: not on
// queues of other memories, nor on what was called ahead of it.
func TestSameHistorySameAnswers(t *testing.T) {
	other := newModel(t, 1, 3)
	other.add(t, 0, top, false)
	run := func() ([]int64, []spot) {
		s := newModel(t, 1, 5)
		for i, p := range []int{3, 9, 3, 9, 0} {
			s.add(t, 0, p, i%2 == 0)
			other.add(t, 0, 1, false)
			other.drop(t, 0, 0)
		}
		s.drop(t, 0, 1)
		s.check(t)
		return s.mem.Words(), read(t, s.mem, s.ats[0])
	}
	words, order := run()
	again, orderAgain := run()
	if !slices.Equal(words, again) || !slices.Equal(order, orderAgain) {
		t.Errorf("%v, then %v", order, orderAgain)
	}
}

// P6.1 with P2.3: two bodies, each with a queue of its own in one memory, in turns by a rule:
// both queues are as if each body had been alone.
func TestTwoQueuesInTurns(t *testing.T) {
	const size = queue.Words + 4*list.Words
	work := func(at int) frame.Body {
		a, b, c, d := at+queue.Words, at+queue.Words+2, at+queue.Words+4, at+queue.Words+6
		return func(f *frame.Frame) {
			queue.Init(f, at)
			queue.Add(f, at, a, 3)
			queue.Add(f, at, b, top)
			queue.AddFirst(f, at, c, 3)
			queue.Add(f, at, d, 0)
			if n, p, ok := queue.First(f, at); ok {
				queue.Drop(f, at, n, p)
			}
		}
	}
	for seed := range 100 {
		m := filled(strange(2 * size)...)
		one, two := frame.New(m), frame.New(m)
		state := uint32(seed)*2654435761 + 1
		for now := 0; now < 1000 && (!one.Done() || !two.Done()); now++ {
			state = state*1664525 + 1013904223
			if state>>16&1 == 0 {
				one.Step(now, work(0))
			} else {
				two.Step(now, work(size))
			}
		}
		if !one.Done() || !two.Done() {
			t.Fatal("not done")
		}
		for _, at := range []int{0, size} {
			n := at + queue.Words
			want := []spot{{n + 4, 3, true}, {n, 3, true}, {n + 6, 0, true}}
			if got := read(t, m, at); !slices.Equal(got, want) {
				t.Errorf("queue %d: %v, want %v", at, got, want)
			}
		}
	}
}
