package delta_test

import (
	"fmt"
	"math"
	"slices"
	"testing"

	"septum/api"
	"septum/delta"
	"septum/frame"
	"septum/list"
	"septum/word"
)

// most is how many accesses a call of this layer may do.
const most = 60

// far is the longest timer.
const far = math.MaxInt64

// filled makes a memory that holds the given words.
func filled(words ...int64) *word.Mem {
	m := word.New(len(words))
	for a, v := range words {
		m.Store(a, v)
	}
	return m
}

// strange makes so many words that are no addresses, each another one.
func strange(size int) []int64 {
	words := make([]int64, size)
	for a := range words {
		words[a] = -1000 - int64(a)
	}
	return words
}

// holds fails the test, unless m holds just the given words.
func holds(t *testing.T, m *word.Mem, want []int64) {
	t.Helper()
	got := m.Words()
	if len(got) != len(want) {
		t.Fatalf("%d words, want %d", len(got), len(want))
	}
	for a := range want {
		if got[a] != want[a] {
			t.Errorf("word %d: %d, want %d", a, got[a], want[a])
		}
	}
}

// play plays one call to its end, and answers how many accesses it did: at most most.
func play(t *testing.T, m *word.Mem, body frame.Body) int {
	t.Helper()
	f := frame.New(m)
	for now := range 500 {
		if f.Step(now, body) {
			if f.Steps() > most {
				t.Errorf("%d accesses in one call", f.Steps())
			}
			return f.Steps()
		}
	}
	t.Fatal("the body is not done")
	return 0
}

// The calls as bodies.

func initial(head int) frame.Body { return func(f *frame.Frame) { delta.Init(f, head) } }
func inserts(head, n int, ticks int64) frame.Body {
	return func(f *frame.Frame) { delta.Insert(f, head, n, ticks) }
}
func removes(head, n int) frame.Body { return func(f *frame.Frame) { delta.Remove(f, head, n) } }
func ticks(head int) frame.Body      { return func(f *frame.Frame) { delta.Tick(f, head) } }

// spot is what Due answers: a timer's node, and whether one is due.
type spot struct {
	n  int
	ok bool
}

// none is the answer that none is due.
var none = spot{}

// due answers what Due does, in a frame of its own.
func due(t *testing.T, m *word.Mem, head int) spot {
	t.Helper()
	s := spot{-1, true}
	play(t, m, func(f *frame.Frame) { s.n, s.ok = delta.Due(f, head) })
	return s
}

// timer is a node, and in how many ticks from now it is due.
type timer struct {
	n    int
	left int64
}

// lay writes a head and timers, as they should be, into words.
func lay(words []int64, head int, timers []timer) {
	ring := []int{head}
	var now int64
	for _, one := range timers {
		ring = append(ring, one.n)
		words[one.n+2] = one.left - now
		now = one.left
	}
	for i, n := range ring {
		next := ring[(i+1)%len(ring)]
		words[n], words[next+1] = int64(next), int64(n)
	}
}

// model is timers' lists of one memory as they should stand.
type model struct {
	mem   *word.Mem
	heads []int
	lists [][]timer
	free  []int
	gone  []int // those of free that stood in a list once
}

// newModel makes so many lists without timers, and nodes that stand in none of them, ahead,
// between and behind, with words that belong to nobody all around, and in the nodes too.
func newModel(t *testing.T, lists, nodes int) *model {
	t.Helper()
	s := &model{lists: make([][]timer, lists)}
	a := 1
	for i := range max(lists, nodes) {
		if i < nodes {
			s.free = append(s.free, a)
			a += delta.Words + 1
		}
		if i < lists {
			s.heads = append(s.heads, a)
			a += list.Words + 1
		}
	}
	s.mem = filled(strange(a)...)
	for _, head := range s.heads {
		play(t, s.mem, initial(head))
	}
	return s
}

// clone answers a model of its own with the same words and timers.
func (s *model) clone() *model {
	c := &model{mem: filled(s.mem.Words()...), heads: s.heads, free: slices.Clone(s.free), gone: slices.Clone(s.gone)}
	for _, timers := range s.lists {
		c.lists = append(c.lists, slices.Clone(timers))
	}
	return c
}

// insert inserts the next free node, and answers it.
func (s *model) insert(t *testing.T, l int, left int64) int {
	t.Helper()
	n := s.free[0]
	s.free = s.free[1:]
	s.gone = slices.DeleteFunc(s.gone, func(g int) bool { return g == n })
	play(t, s.mem, inserts(s.heads[l], n, left))
	place := 0
	for place < len(s.lists[l]) && s.lists[l][place].left <= left {
		place++
	}
	s.lists[l] = slices.Insert(s.lists[l], place, timer{n, left})
	return n
}

// take takes the k-th timer out of the model alone.
func (s *model) take(l, k int) {
	n := s.lists[l][k].n
	s.lists[l] = slices.Delete(s.lists[l], k, k+1)
	s.free = append(s.free, n)
	s.gone = append(s.gone, n)
}

// remove removes the k-th timer.
func (s *model) remove(t *testing.T, l, k int) {
	t.Helper()
	play(t, s.mem, removes(s.heads[l], s.lists[l][k].n))
	s.take(l, k)
}

// tick lets a tick go by: for nobody, while the first one is due.
func (s *model) tick(t *testing.T, l int) {
	t.Helper()
	play(t, s.mem, ticks(s.heads[l]))
	if len(s.lists[l]) == 0 || s.lists[l][0].left == 0 {
		return
	}
	for i := range s.lists[l] {
		s.lists[l][i].left--
	}
}

// due fails the test, unless Due answers what it should.
func (s *model) due(t *testing.T, l int) spot {
	t.Helper()
	want := none
	if len(s.lists[l]) > 0 && s.lists[l][0].left == 0 {
		want = spot{s.lists[l][0].n, true}
		s.take(l, 0)
	}
	got := due(t, s.mem, s.heads[l])
	if got != want {
		t.Fatalf("Due: %v, want %v", got, want)
	}
	return got
}

// check fails the test, unless every word is as the model says.
func (s *model) check(t *testing.T, how ...any) {
	t.Helper()
	want := strange(s.mem.Len())
	for _, n := range s.gone {
		want[n], want[n+1], want[n+2] = int64(n), int64(n), 0
	}
	for l, head := range s.heads {
		lay(want, head, s.lists[l])
	}
	holds(t, s.mem, want)
	if t.Failed() {
		t.Fatal(how...)
	}
}

// drain lets ticks go by, with Due behind each, till no timer is left, and answers whom it saw,
// and when.
func (s *model) drain(t *testing.T, l int) []timer {
	t.Helper()
	var seen []timer
	for now := int64(0); now < 100; now++ {
		for got := s.due(t, l); got.ok; got = s.due(t, l) {
			seen = append(seen, timer{got.n, now})
			s.check(t, "due", got, now)
		}
		s.tick(t, l)
		s.check(t, "tick", now)
	}
	if len(s.lists[l]) > 0 {
		t.Fatal("still there:", s.lists[l])
	}
	return seen
}

// P7.1, Words: a list's node, and a delta.
func TestWords(t *testing.T) {
	if delta.Words != 3 {
		t.Error(delta.Words)
	}
}

// P7.1: Init, at all places of a memory, whatever stood there: the head stands alone, its two
// words are all that is touched, and none is due.
func TestInit(t *testing.T) {
	for head := range 7 {
		words := strange(8)
		m := filled(words...)
		if did := play(t, m, initial(head)); did > 2 {
			t.Errorf("%d accesses", did)
		}
		words[head], words[head+1] = int64(head), int64(head)
		holds(t, m, words)
		if got := due(t, m, head); got != none {
			t.Errorf("Due of no timers at %d: %v", head, got)
		}
		holds(t, m, words)
	}
}

// P7.1: Init of a list that had timers: there are none, and the nodes' words are as they were.
func TestInitAnew(t *testing.T) {
	s := newModel(t, 1, 3)
	for _, left := range []int64{0, 4, 2} {
		s.insert(t, 0, left)
	}
	words := s.mem.Words()
	play(t, s.mem, initial(s.heads[0]))
	lay(words, s.heads[0], nil)
	holds(t, s.mem, words)
	if got := due(t, s.mem, s.heads[0]); got != none {
		t.Error(got)
	}
	holds(t, s.mem, words)
}

// P7.1, the example: Insert a 5, b 3, c 5; five Ticks, with Due behind each: b behind the third
// one, a and c behind the fifth.
func TestExample(t *testing.T) {
	const head, a, b, c = 0, 2, 5, 8
	m := word.New(11)
	play(t, m, initial(head))
	play(t, m, inserts(head, a, 5))
	play(t, m, inserts(head, b, 3))
	play(t, m, inserts(head, c, 5))
	holds(t, m, []int64{b, c, c, b, 2, a, head, 3, head, a, 0})
	for tick, want := range [][]spot{
		{none}, {none}, {{b, true}, none}, {none}, {{a, true}, {c, true}, none},
	} {
		play(t, m, ticks(head))
		for _, one := range want {
			if got := due(t, m, head); got != one {
				t.Errorf("behind the tick %d: %v, want %v", tick+1, got, one)
			}
		}
	}
	holds(t, m, []int64{head, head, a, a, 0, b, b, 0, c, c, 0})
}

// P7.1: a Tick and a Due of no timers change nothing, however many there are.
func TestNoTimers(t *testing.T) {
	s := newModel(t, 1, 1)
	for range 5 {
		s.tick(t, 0)
		s.check(t, "tick")
		s.due(t, 0)
		s.check(t, "due")
	}
	// What went by ahead of it doesn't count for one that comes now.
	s.insert(t, 0, 2)
	s.check(t)
	if seen := s.drain(t, 0); len(seen) != 1 || seen[0].left != 2 {
		t.Error(seen)
	}
}

// P7.1: with no timers none is due, and no tick counts, whatever the first words of the memory
// hold: there is no node at 0.
func TestNoTimersNoNodeAtZero(t *testing.T) {
	for _, v := range []int64{0, 1, 5} {
		m := filled(v, v, v, v, v, v, v, v)
		play(t, m, initial(5))
		if got := due(t, m, 5); got != none {
			t.Errorf("among words of %d: %v", v, got)
		}
		play(t, m, ticks(5))
		holds(t, m, []int64{v, v, v, v, v, 5, 5, v})
	}
}

// P7.1: a timer of each length alone: it is due behind that many ticks, not ahead of that.
func TestOneTimer(t *testing.T) {
	for left := range int64(12) {
		s := newModel(t, 1, 1)
		n := s.insert(t, 0, left)
		s.check(t, left)
		if seen := s.drain(t, 0); !slices.Equal(seen, []timer{{n, left}}) {
			t.Errorf("%v, want %d at %d", seen, n, left)
		}
	}
}

// P7.1: 0 ticks: due at once, without a Tick, behind those of 0 ticks that came ahead of it, and
// ahead of all others.
func TestNoTicks(t *testing.T) {
	s := newModel(t, 1, 4)
	d := s.insert(t, 0, 3)
	a, b := s.insert(t, 0, 0), s.insert(t, 0, 0)
	c := s.insert(t, 0, 0)
	s.check(t)
	for _, n := range []int{a, b, c} {
		if got := s.due(t, 0); got != (spot{n, true}) {
			t.Errorf("%v, want %d", got, n)
		}
		s.check(t, n)
	}
	if got := s.due(t, 0); got != none {
		t.Error(got)
	}
	if seen := s.drain(t, 0); !slices.Equal(seen, []timer{{d, 3}}) {
		t.Error(seen)
	}
}

// P7.1: timers of one length are due as they were inserted, all at once.
func TestOneLength(t *testing.T) {
	for _, left := range []int64{0, 1, 7} {
		s := newModel(t, 1, api.MaxThreads)
		var want []timer
		for range api.MaxThreads {
			want = append(want, timer{s.insert(t, 0, left), left})
			s.check(t, left)
		}
		if seen := s.drain(t, 0); !slices.Equal(seen, want) {
			t.Errorf("%v, want %v", seen, want)
		}
	}
}

// P7.1: timers of one length, inserted one tick apart, are due one tick apart.
func TestInsertBetweenTicks(t *testing.T) {
	s := newModel(t, 1, 4)
	var want []timer
	for i := range int64(4) {
		want = append(want, timer{s.insert(t, 0, 6), 6 + i - 4})
		s.check(t, i)
		s.tick(t, 0)
		s.check(t, i, "tick")
	}
	if seen := s.drain(t, 0); !slices.Equal(seen, want) {
		t.Errorf("%v, want %v", seen, want)
	}
}

// P7.1: one is inserted ahead of all, between any two, and behind all: with a length of its own,
// and with that of another.
func TestInsertPlaces(t *testing.T) {
	for left := range int64(14) {
		s := newModel(t, 1, 6)
		for _, other := range []int64{4, 12, 4, 8, 0} {
			s.insert(t, 0, other)
		}
		n := s.insert(t, 0, left)
		s.check(t, left)
		seen := s.drain(t, 0)
		if !slices.Contains(seen, timer{n, left}) {
			t.Errorf("%d: %v", left, seen)
		}
	}
}

// orders calls do with each order of the lengths.
func orders(lengths []int64, done int, do func([]int64)) {
	if done == len(lengths) {
		do(lengths)
		return
	}
	for i := done; i < len(lengths); i++ {
		c := slices.Clone(lengths)
		c[done], c[i] = c[i], c[done]
		orders(c, done+1, do)
	}
}

// P7.1: timers of several lengths, in every order: every word behind each Insert, and who is due
// when.
func TestInsertOrders(t *testing.T) {
	orders([]int64{0, 3, 5, 5, 9}, 0, func(lengths []int64) {
		s := newModel(t, 1, 5)
		var want []timer
		for _, left := range lengths {
			want = append(want, timer{s.insert(t, 0, left), left})
			s.check(t, lengths)
		}
		slices.SortStableFunc(want, func(a, b timer) int { return int(a.left - b.left) })
		if seen := s.drain(t, 0); !slices.Equal(seen, want) {
			t.Fatalf("%v: %v, want %v", lengths, seen, want)
		}
	})
}

// P7.1: any one of several is removed, the first and the last one among them, at once or behind
// some ticks: all others are due as they were, and it is never due.
func TestRemove(t *testing.T) {
	lengths := []int64{2, 2, 5, 9, 9}
	for k := range lengths {
		for gone := range int64(3) {
			s := newModel(t, 1, len(lengths))
			var want []timer
			for i, left := range lengths {
				n := s.insert(t, 0, left)
				if i != k {
					want = append(want, timer{n, left - gone})
				}
			}
			for range gone {
				s.tick(t, 0)
			}
			n := s.lists[0][k].n
			s.remove(t, 0, k)
			s.check(t, k, gone)
			words := s.mem.Words()
			if !slices.Equal(words[n:n+3], []int64{int64(n), int64(n), 0}) {
				t.Errorf("words of a removed one: %v", words[n:n+3])
			}
			if seen := s.drain(t, 0); !slices.Equal(seen, want) {
				t.Errorf("%v, want %v", seen, want)
			}
		}
	}
}

// P7.1: the only one is removed: there are no timers, as behind Init.
func TestRemoveTheOnlyOne(t *testing.T) {
	for _, left := range []int64{0, 1, 8, far} {
		s := newModel(t, 1, 1)
		s.insert(t, 0, left)
		s.remove(t, 0, 0)
		s.check(t, left)
		if got := s.due(t, 0); got != none {
			t.Error(got)
		}
		// And it can be inserted anew.
		n := s.insert(t, 0, 3)
		s.check(t, left)
		if seen := s.drain(t, 0); !slices.Equal(seen, []timer{{n, 3}}) {
			t.Error(seen)
		}
	}
}

// P7.1: whoever is removed already, or was due, isn't any more: a Remove of it changes nothing.
func TestRemoveTwice(t *testing.T) {
	s := newModel(t, 1, 4)
	a := s.insert(t, 0, 0)
	b := s.insert(t, 0, 4)
	s.insert(t, 0, 6)
	s.insert(t, 0, 9)
	s.remove(t, 0, 1)
	s.due(t, 0)
	for _, n := range []int{a, b, b} {
		play(t, s.mem, removes(s.heads[0], n))
		s.check(t, n)
	}
	s.drain(t, 0)
}

// P7.1: all are removed, in every order.
func TestRemoveOrders(t *testing.T) {
	orders([]int64{0, 1, 2, 3}, 0, func(order []int64) {
		s := newModel(t, 1, 4)
		var nodes []int
		for _, left := range []int64{3, 3, 0, 8} {
			nodes = append(nodes, s.insert(t, 0, left))
		}
		for _, i := range order {
			k := slices.IndexFunc(s.lists[0], func(one timer) bool { return one.n == nodes[i] })
			s.remove(t, 0, k)
			s.check(t, order, i)
		}
	})
}

// P7.1: a Tick while the first one's delta is 0 changes nothing, for the others neither; behind
// its Due, or its Remove, ticks go on where they were.
func TestTickWhileDue(t *testing.T) {
	for _, byDue := range []bool{true, false} {
		s := newModel(t, 1, 3)
		s.insert(t, 0, 1)
		b, c := s.insert(t, 0, 3), s.insert(t, 0, 4)
		s.tick(t, 0)
		before := s.mem.Words()
		for range 4 {
			s.tick(t, 0)
			holds(t, s.mem, before)
		}
		if byDue {
			s.due(t, 0)
		} else {
			s.remove(t, 0, 0)
		}
		s.check(t, byDue)
		if seen := s.drain(t, 0); !slices.Equal(seen, []timer{{b, 2}, {c, 3}}) {
			t.Error(seen)
		}
	}
}

// P7.1: Due of one whose delta is above 0 changes nothing, however often.
func TestNotYetDue(t *testing.T) {
	for _, left := range []int64{1, 2, 50, 1 << 32, 1<<32 + 1, 1 << 62, far} {
		s := newModel(t, 1, 2)
		s.insert(t, 0, left)
		s.insert(t, 0, left)
		before := s.mem.Words()
		for range 3 {
			if got := due(t, s.mem, s.heads[0]); got != none {
				t.Errorf("%d: %v", left, got)
			}
			holds(t, s.mem, before)
		}
	}
}

// P7.1: several that are due at once come one a call, in order, and one that isn't stays.
func TestSeveralDueAtOnce(t *testing.T) {
	s := newModel(t, 1, 5)
	a := s.insert(t, 0, 2)
	e := s.insert(t, 0, 3)
	b := s.insert(t, 0, 2)
	s.tick(t, 0)
	c := s.insert(t, 0, 1)
	s.tick(t, 0)
	d := s.insert(t, 0, 0)
	for _, n := range []int{a, b, c, d} {
		if got := s.due(t, 0); got != (spot{n, true}) {
			t.Errorf("%v, want %d", got, n)
		}
		words := s.mem.Words()
		if !slices.Equal(words[n:n+3], []int64{int64(n), int64(n), 0}) {
			t.Errorf("words of one that was due: %v", words[n:n+3])
		}
		s.check(t, n)
	}
	if got := s.due(t, 0); got != none {
		t.Error(got)
	}
	s.check(t)
	s.tick(t, 0)
	if got := s.due(t, 0); got != (spot{e, true}) {
		t.Error(got)
	}
	s.check(t)
}

// P7.1: very long timers, up to the greatest word: all words are true, in every order.
func TestVeryLong(t *testing.T) {
	orders([]int64{far, far - 1, far, 1 << 62, 1, 0}, 0, func(lengths []int64) {
		s := newModel(t, 1, 6)
		for _, left := range lengths {
			s.insert(t, 0, left)
			s.check(t, lengths)
		}
		s.due(t, 0)
		s.tick(t, 0)
		s.check(t, lengths, "tick")
		s.insert(t, 0, far)
		s.check(t, lengths, "again")
		s.remove(t, 0, 1)
		s.check(t, lengths, "removed")
		s.remove(t, 0, 0)
		s.tick(t, 0)
		s.check(t, lengths, "tick again")
		for range 4 {
			s.remove(t, 0, len(s.lists[0])/2)
			s.check(t, lengths, "removed")
		}
	})
}

// P7.1, Words: a head has two words: what stands behind it is another's, also another head, or
// a timer's node.
func TestHeadHasTwoWords(t *testing.T) {
	const one, two, n, k = 0, 2, 4, 7
	m := word.New(10)
	play(t, m, initial(one))
	play(t, m, initial(two))
	play(t, m, inserts(two, n, 4))
	play(t, m, inserts(one, k, 6))
	holds(t, m, []int64{k, k, n, n, two, two, 4, one, one, 6})
	play(t, m, ticks(one))
	play(t, m, removes(two, n))
	holds(t, m, []int64{k, k, two, two, n, n, 0, one, one, 5})
	play(t, m, removes(one, k))
	holds(t, m, []int64{one, one, two, two, n, n, 0, k, k, 0})
}

// P7.1: a node at the address 0 is one like others: due, and told from none.
func TestNodeAtZero(t *testing.T) {
	const head, other = 6, 3
	m := word.New(8)
	play(t, m, initial(head))
	play(t, m, inserts(head, 0, 0))
	play(t, m, inserts(head, other, 0))
	if got := due(t, m, head); got != (spot{0, true}) {
		t.Error(got)
	}
	play(t, m, inserts(head, 0, 1))
	holds(t, m, []int64{head, other, 1, 0, head, 0, other, 0})
	play(t, m, removes(head, 0))
	if got := due(t, m, head); got != (spot{other, true}) {
		t.Error(got)
	}
	holds(t, m, []int64{0, 0, 0, other, other, 0, head, head})
}

// P7.1: the last words of the greatest memory are a head, and a timer's node, as others are.
func TestAtTheEnd(t *testing.T) {
	m := word.New(api.MaxWords)
	for _, c := range [][2]int{{api.MaxWords - list.Words, 5}, {5, api.MaxWords - delta.Words}} {
		play(t, m, initial(c[0]))
		play(t, m, inserts(c[0], c[1], 1))
		play(t, m, ticks(c[0]))
		if got := due(t, m, c[0]); got != (spot{c[1], true}) {
			t.Errorf("%v, want %d", got, c[1])
		}
	}
}

// P7.1: many calls by a rule, of two timers' lists in one memory.
func TestManyCalls(t *testing.T) {
	for seed := range 80 {
		s := newModel(t, 2, 1+seed%12)
		state := uint32(seed)*2654435761 + 1
		draw := func(n int) int {
			state = state*1664525 + 1013904223
			return int(state>>16) % n
		}
		for turn := range 80 {
			kind, l, left, which := draw(6), draw(2), draw(7), draw(64)
			switch {
			case kind < 2 && len(s.free) > 0:
				s.insert(t, l, int64(left))
			case kind == 2 && len(s.lists[l]) > 0:
				s.remove(t, l, which%len(s.lists[l]))
			case kind == 3:
				s.due(t, l)
			default:
				s.tick(t, l)
			}
			s.check(t, seed, turn, kind, l, left, which)
		}
		s.drain(t, 0)
		s.drain(t, 1)
	}
}

// follow does every order of so many calls, in a model of its own.
func follow(t *testing.T, s *model, how []string, depth int) {
	t.Helper()
	s.check(t, how)
	if depth == 0 {
		return
	}
	try := func(name string, call func(c *model)) {
		c := s.clone()
		call(c)
		follow(t, c, append(slices.Clone(how), name), depth-1)
	}
	for _, left := range []int64{0, 1, 3} {
		try(fmt.Sprint("insert ", left), func(c *model) { c.insert(t, 0, left) })
	}
	for k := range s.lists[0] {
		try(fmt.Sprint("remove ", k), func(c *model) { c.remove(t, 0, k) })
	}
	try("tick", func(c *model) { c.tick(t, 0) })
	try("due", func(c *model) { c.due(t, 0) })
}

// P7.1: every order of six calls.
func TestEveryOrder(t *testing.T) {
	follow(t, newModel(t, 1, 6), nil, 6)
}

// DOC, Words: how many accesses a call does at most, with so many timers as an Insert can pass
// (play counts): it is inserted in every place, behind all of them too.
func TestAccesses(t *testing.T) {
	const timers = 26
	for left := range int64(timers + 2) {
		s := newModel(t, 1, timers+1)
		for i := range int64(timers) {
			s.insert(t, 0, i+1)
		}
		n := s.insert(t, 0, left)
		s.check(t, left)
		for turn := 0; len(s.lists[0]) > 0; turn++ {
			switch {
			case s.lists[0][0].left == 0:
				s.due(t, 0)
			case turn%3 == 0 && s.lists[0][len(s.lists[0])/2].n != n:
				s.remove(t, 0, len(s.lists[0])/2)
			default:
				s.tick(t, 0)
			}
			s.check(t, left, turn)
		}
	}
	s := newModel(t, 1, 3)
	s.insert(t, 0, 1)
	s.insert(t, 0, 1)
	n := s.insert(t, 0, 1)
	head := s.heads[0]
	for _, c := range []struct {
		name string
		call frame.Body
		most int
	}{
		{"Tick", ticks(head), 3},
		{"Remove", removes(head, n), 11},
		{"Due", func(f *frame.Frame) { delta.Due(f, head) }, 10},
		{"Init", initial(head), 2},
	} {
		if did := play(t, s.mem, c.call); did > c.most {
			t.Errorf("%s: %d accesses", c.name, did)
		}
	}
}

// DOC, Words, with P7.1: more timers than an Insert can pass with its accesses: who is due ahead
// of those beyond it is inserted as ever; who isn't is not, and nothing changes.
func TestMoreTimersThanAccesses(t *testing.T) {
	s := newModel(t, 1, 40)
	for i := range int64(32) { // the last first: each one's place is the first one
		s.insert(t, 0, 32-i)
	}
	s.check(t)
	before := s.mem.Words()
	for _, left := range []int64{26, 27, 31, 32, 33, far} {
		play(t, s.mem, inserts(s.heads[0], s.free[0], left))
		holds(t, s.mem, before)
	}
	for _, left := range []int64{25, 24, 0, 7} {
		s.insert(t, 0, left)
		s.check(t, left)
	}
	s.drain(t, 0)
}

// scene answers a memory with a list at 4 (timers of 0, 0, 3 and 7 ticks), one without timers at
// 1, and one free node behind all; words of nobody stand at the ends.
func scene(t *testing.T) (m *word.Mem, head int, n [4]int, free int) {
	t.Helper()
	head = 4
	m = filled(strange(30)...)
	play(t, m, initial(1))
	play(t, m, initial(head))
	for i, left := range []int64{0, 0, 3, 7} {
		n[i] = 8 + 4*i
		play(t, m, inserts(head, n[i], left))
	}
	return m, head, n, 25
}

// P7.1: a frame that goes off in the midst of Due: 0, false with every step but the last one,
// which answers who is due, if any one is.
func TestDueGoesOff(t *testing.T) {
	for _, c := range []struct {
		name  string
		ahead []frame.Body
		want  spot
	}{
		{"due, with another", nil, spot{8, true}},
		{"due, the last one of its time", []frame.Body{removes(4, 8)}, spot{12, true}},
		{"the only one", []frame.Body{removes(4, 8), removes(4, 16), removes(4, 20)}, spot{12, true}},
		{"not yet", []frame.Body{removes(4, 8), removes(4, 12)}, none},
		{"no timers", []frame.Body{initial(4)}, none},
	} {
		m, head, _, _ := scene(t)
		for _, call := range c.ahead {
			play(t, m, call)
		}
		got := spot{-1, true}
		body := func(f *frame.Frame) {
			f.Load(0) // so that the first step has none left
			got.n, got.ok = delta.Due(f, head)
		}
		f := frame.New(m)
		for now := 0; !f.Step(now, body); now++ {
			if got != none {
				t.Errorf("%s, step %d: %v", c.name, now, got)
			}
			if now > most {
				t.Fatalf("%s is not done", c.name)
			}
		}
		if got != c.want || f.Steps() < 2 {
			t.Errorf("%s: %v with %d accesses", c.name, got, f.Steps())
		}
	}
}

// P7.1: each call, step by step: one access a step, and behind the last one what one go does,
// also if a word that isn't the list's changes in between.
func TestCallsGoOff(t *testing.T) {
	_, head, n, free := scene(t)
	for name, call := range map[string]frame.Body{
		"Init": initial(head), "Insert the only one": inserts(1, free, 5),
		"Insert ahead of all that wait": inserts(head, free, 0), "Insert between": inserts(head, free, 3),
		"Insert between, too": inserts(head, free, 6), "Insert the last one": inserts(head, free, 8),
		"Insert of below 0":    inserts(head, free, -3),
		"Remove the first one": removes(head, n[0]), "Remove": removes(head, n[2]),
		"Remove the last one": removes(head, n[3]), "Tick while due": ticks(head), "Tick of none": ticks(1),
		"Due": func(f *frame.Frame) { delta.Due(f, head) }, "Due of none": func(f *frame.Frame) { delta.Due(f, 1) },
		"Remove and Tick": func(f *frame.Frame) {
			delta.Remove(f, head, n[0])
			delta.Remove(f, head, n[1])
			delta.Tick(f, head)
		},
		"Tick alone": func(f *frame.Frame) {
			delta.Insert(f, 1, free, 2)
			delta.Tick(f, 1)
		},
	} {
		m, _, _, _ := scene(t)
		whole, _, _, _ := scene(t)
		play(t, whole, call)
		nobody, _ := m.Load(0)
		off := false
		body := func(f *frame.Frame) { call(f); off = f.Off() }
		f := frame.New(m)
		for now := 0; ; now++ {
			before := m.Words()
			done := f.Step(now, body)
			if f.Steps() != now+1 || off == done || changed(before, m.Words()) > 1 {
				t.Errorf("%s, step %d: done %t, Off %t, %d accesses", name, now, done, off, f.Steps())
			}
			if done || now > most {
				break
			}
			m.Store(0, int64(now))
		}
		m.Store(0, nobody)
		holds(t, m, whole.Words())
	}
}

// changed tells how many words are others.
func changed(before, behind []int64) int {
	n := 0
	for a := range before {
		if before[a] != behind[a] {
			n++
		}
	}
	return n
}

// everyOff does every call with a frame that is off.
func everyOff(t *testing.T, f *frame.Frame, head, n int, left int64) {
	t.Helper()
	if got, ok := delta.Due(f, head); got != 0 || ok {
		t.Errorf("Due of %d: %d, %t", head, got, ok)
	}
	delta.Insert(f, head, n, left)
	delta.Remove(f, head, n)
	delta.Tick(f, head)
	delta.Init(f, head)
}

// P7.1: calls behind the step's access: they go off, answer that none is due, and do nothing.
func TestFrameIsOff(t *testing.T) {
	m, head, n, free := scene(t)
	before := m.Words()
	for name, call := range map[string]frame.Body{
		"Init": initial(head), "Insert": inserts(head, free, 5), "Remove": removes(head, n[1]), "Tick": ticks(head),
		"Due": func(f *frame.Frame) { delta.Due(f, head) },
		"all": func(f *frame.Frame) {
			everyOff(t, f, head, n[0], 0)
			everyOff(t, f, 1, free, 5)
		},
	} {
		f, ran := frame.New(m), false
		done := f.Step(0, func(f *frame.Frame) {
			f.Load(0)
			call(f)
			ran = f.Off()
		})
		if done || !ran || f.Steps() != 1 {
			t.Errorf("%s: done %t, off %t, %d accesses", name, done, ran, f.Steps())
		}
		holds(t, m, before)
	}
}

// anyTicks are some that a timer may have, and some below 0.
var anyTicks = []int64{0, 1, 2, 7, 1 << 32, far - 1, far, -1, -2, -1 << 32, math.MinInt64, math.MinInt64 + 1}

// addresses are some of a memory of 30 words, and some that are none.
var addresses = []int{0, 1, 7, 12, 26, 27, 28, 29, 30, 31, 3999, 4000, -1, -2, -3, -4, -4000, 1 << 32,
	math.MaxInt, math.MaxInt - 1, math.MaxInt - 2, math.MinInt, math.MinInt + 1}

// P7.1: ticks from 0 on; below 0, down to the least word, they count as 0: all others are due as
// they were, and none is kept from it.
func TestTicksBelowZero(t *testing.T) {
	for _, left := range []int64{-1, -2, -5, -1 << 32, math.MinInt64 + 1, math.MinInt64} {
		s := newModel(t, 1, 4)
		for _, other := range []int64{0, 2, 5} {
			s.insert(t, 0, other)
		}
		n := s.free[0]
		s.free = nil
		play(t, s.mem, inserts(s.heads[0], n, left))
		s.lists[0] = slices.Insert(s.lists[0], 1, timer{n, 0})
		s.check(t, left)
		if seen := s.drain(t, 0); len(seen) != 4 || seen[1] != (timer{n, 0}) {
			t.Errorf("%d: %v", left, seen)
		}
		// Alone, too.
		play(t, s.mem, inserts(s.heads[0], n, left))
		if got := due(t, s.mem, s.heads[0]); got != (spot{n, true}) {
			t.Errorf("%d: %v", left, got)
		}
	}
}

// R1, P7.1 with P2.1: a nil frame, and one out of a step, are off: nothing is done, and none due.
func TestWithoutAStep(t *testing.T) {
	m, head, n, _ := scene(t)
	before := m.Words()
	fresh, over, done := frame.New(m), frame.New(m), frame.New(m)
	over.Step(0, func(f *frame.Frame) { f.Load(0); f.Load(0) })
	done.Step(0, func(f *frame.Frame) { f.Load(0) })
	for _, f := range []*frame.Frame{nil, fresh, over, done, new(frame.Frame)} {
		steps := f.Steps()
		for _, left := range anyTicks {
			everyOff(t, f, head, n[0], left)
			for _, a := range addresses {
				everyOff(t, f, a, a, left)
				everyOff(t, f, head, a, left)
			}
		}
		if f.Steps() != steps {
			t.Errorf("%d accesses", f.Steps()-steps)
		}
		holds(t, m, before)
	}
}

// everyCall does every call: each ends, with no more accesses than a call of this layer does, and
// beside a false of Due stands 0.
func everyCall(t *testing.T, m *word.Mem, head, n int, left int64) {
	t.Helper()
	for _, call := range []frame.Body{
		ticks(head), removes(head, n), inserts(head, n, left), ticks(head), inserts(head, n, left),
		removes(head, n), removes(head, n), inserts(head, n, left), initial(head), inserts(head, n, left),
	} {
		play(t, m, call)
		if got := due(t, m, head); !got.ok && got != none {
			t.Errorf("Due of %d: %v", head, got)
		}
	}
}

// R1, P7.1 with P2.1: of an address that is none a word is 0, and nothing is written: all calls
// of a head, and of nodes, that aren't there end.
func TestAddressThatIsNone(t *testing.T) {
	for _, m := range []*word.Mem{nil, word.New(0), new(word.Mem)} {
		for _, head := range addresses {
			for _, left := range anyTicks {
				everyCall(t, m, head, head, left)
				everyCall(t, m, head, 0, left)
			}
		}
	}
	for _, head := range addresses {
		for _, n := range addresses {
			for _, left := range anyTicks {
				everyCall(t, filled(strange(30)...), head, n, left)
			}
		}
	}
	m := filled(strange(30)...)
	for _, head := range []int{30, 4000, -1000, math.MinInt, math.MaxInt - 100} {
		play(t, m, initial(head))
	}
	holds(t, m, strange(30))
}

// R1: calls end, whatever stands in the words: no addresses, rings that never come to their head,
// deltas below 0, nodes within one another.
func TestWordsThatAreNoAddresses(t *testing.T) {
	values := []int64{0, 1, 2, 3, 5, 9, 12, 15, 27, 29, 30, -1, -2, 4000, 1 << 40, math.MaxInt64, math.MinInt64}
	state := uint32(1)
	draw := func(n int) int {
		state = state*1664525 + 1013904223
		return int(state>>16) % n
	}
	for range 600 {
		m := word.New(30)
		for a := range 30 {
			m.Store(a, values[draw(len(values))])
		}
		for _, left := range anyTicks {
			everyCall(t, m, draw(30), draw(30), left)
			everyCall(t, m, addresses[draw(len(addresses))], addresses[draw(len(addresses))], left)
		}
	}
}

// R1, and DOC's 60 accesses: a ring that never comes to its head, of one node and of two, whose
// deltas are 0, 1, or below 0: each call of it ends.
func TestRingWithoutItsHead(t *testing.T) {
	const head, a, b, n = 0, 2, 5, 8
	for _, d := range []int64{0, 1, -1, far, math.MinInt64} {
		for _, left := range anyTicks {
			for _, next := range []int64{a, b} {
				words := []int64{a, a, next, head, d, a, a, d, -1, -1, -1}
				play(t, filled(words...), inserts(head, n, left))
				play(t, filled(words...), ticks(head))
				play(t, filled(words...), removes(head, a))
				everyCall(t, filled(words...), head, n, left)
				everyCall(t, filled(words...), head, a, left)
			}
		}
	}
}

// R2, R3: what a call answers depends on its arguments and its frame's accesses alone: not on
// lists of other memories, nor on what was called ahead of it.
func TestSameHistorySameAnswers(t *testing.T) {
	other := newModel(t, 1, 3)
	other.insert(t, 0, 1)
	run := func() ([]int64, []timer) {
		s := newModel(t, 1, 5)
		for _, left := range []int64{3, 9, 3, 0, 5} {
			s.insert(t, 0, left)
			other.insert(t, 0, 2)
			other.tick(t, 0)
			other.remove(t, 0, 0)
		}
		s.remove(t, 0, 1)
		words := s.mem.Words()
		return words, s.drain(t, 0)
	}
	words, seen := run()
	again, seenAgain := run()
	if !slices.Equal(words, again) || !slices.Equal(seen, seenAgain) {
		t.Errorf("%v, then %v", seen, seenAgain)
	}
}

// P7.1 with P2.3: two bodies, each with a timers' list of its own in one memory, in turns by a
// rule: both lists are as if each body had been alone.
func TestTwoListsInTurns(t *testing.T) {
	const size = list.Words + 4*delta.Words
	work := func(head int, was *spot) frame.Body {
		a, b, c, d := head+2, head+5, head+8, head+11
		return func(f *frame.Frame) {
			delta.Init(f, head)
			delta.Insert(f, head, a, 4)
			delta.Insert(f, head, b, 1)
			delta.Insert(f, head, c, 4)
			delta.Insert(f, head, d, 2)
			delta.Tick(f, head)
			was.n, was.ok = delta.Due(f, head)
			delta.Remove(f, head, d)
			delta.Tick(f, head)
		}
	}
	for seed := range 100 {
		m := filled(strange(2 * size)...)
		one, two := frame.New(m), frame.New(m)
		var first, second spot
		state := uint32(seed)*2654435761 + 1
		for now := 0; now < 1000 && (!one.Done() || !two.Done()); now++ {
			state = state*1664525 + 1013904223
			if state>>16&1 == 0 {
				one.Step(now, work(0, &first))
			} else {
				two.Step(now, work(size, &second))
			}
		}
		if !one.Done() || !two.Done() {
			t.Fatal("not done")
		}
		if first != (spot{5, true}) || second != (spot{size + 5, true}) {
			t.Errorf("%v, %v", first, second)
		}
		want := strange(2 * size)
		for _, head := range []int{0, size} {
			lay(want, head, []timer{{head + 2, 2}, {head + 8, 2}})
			for _, n := range []int{head + 5, head + 11} {
				want[n], want[n+1], want[n+2] = int64(n), int64(n), 0
			}
		}
		holds(t, m, want)
	}
}
