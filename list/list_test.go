package list_test

import (
	"fmt"
	"math"
	"slices"
	"testing"

	"septum/frame"
	"septum/list"
	"septum/word"
)

// most is how many accesses a call of this layer may do.
const most = 60

// filled makes a memory that holds the given words.
func filled(words ...int64) *word.Mem {
	m := word.New(len(words))
	for a, v := range words {
		m.Store(a, v)
	}
	return m
}

// strange makes a memory of so many words that are no addresses, each another one.
func strange(size int) *word.Mem {
	m := word.New(size)
	for a := range size {
		m.Store(a, -1000-int64(a))
	}
	return m
}

// holds fails the test, unless m holds just the given words.
func holds(t *testing.T, m *word.Mem, want ...int64) {
	t.Helper()
	if got := m.Words(); !slices.Equal(got, want) {
		t.Errorf("words: %v, want %v", got, want)
	}
}

// steps plays a body that waits for nobody to its end, and answers how many accesses it did.
func steps(t *testing.T, m *word.Mem, body frame.Body) int {
	t.Helper()
	f := frame.New(m)
	for now := range 500 {
		if f.Step(now, body) {
			return f.Steps()
		}
	}
	t.Fatal("the body is not done")
	return 0
}

// play plays one call to its end; it may do most accesses.
func play(t *testing.T, m *word.Mem, body frame.Body) {
	t.Helper()
	if did := steps(t, m, body); did > most {
		t.Errorf("%d accesses in one call", did)
	}
}

// The calls as bodies.

func initial(head int) frame.Body    { return func(f *frame.Frame) { list.Init(f, head) } }
func appends(head, n int) frame.Body { return func(f *frame.Frame) { list.Append(f, head, n) } }
func prepends(head, n int) frame.Body {
	return func(f *frame.Frame) { list.Prepend(f, head, n) }
}
func puts(n, m int) frame.Body  { return func(f *frame.Frame) { list.Ahead(f, n, m) } }
func removes(n int) frame.Body  { return func(f *frame.Frame) { list.Remove(f, n) } }
func nothing(f *frame.Frame)    {}
func at(m *word.Mem, a int) int { v, _ := m.Load(a); return int(v) }

// forwards reads a list by First and Next, each in a frame of its own.
func forwards(t *testing.T, m *word.Mem, head int) []int {
	t.Helper()
	var nodes []int
	var n int
	var ok bool
	play(t, m, func(f *frame.Frame) { n, ok = list.First(f, head) })
	for ok && len(nodes) < 100 {
		nodes = append(nodes, n)
		behind := n
		play(t, m, func(f *frame.Frame) { n, ok = list.Next(f, head, behind) })
	}
	if n != 0 {
		t.Errorf("%d, false at the end", n)
	}
	return nodes
}

// backwards reads a list by its nodes' second words, and answers it from the first one on.
func backwards(m *word.Mem, head int) []int {
	var nodes []int
	for n := at(m, head+1); n != head && len(nodes) < 100; n = at(m, n+1) {
		nodes = append(nodes, n)
	}
	slices.Reverse(nodes)
	return nodes
}

// stands fails the test, unless the list is of the given nodes, by all that tells of it.
func stands(t *testing.T, m *word.Mem, head int, want ...int) {
	t.Helper()
	before := m.Words()
	if got := forwards(t, m, head); !slices.Equal(got, want) {
		t.Errorf("list %d: %v, want %v", head, got, want)
	}
	if got := backwards(m, head); !slices.Equal(got, want) {
		t.Errorf("list %d, backwards: %v, want %v", head, got, want)
	}
	empty := len(want) > 0
	play(t, m, func(f *frame.Frame) { empty = list.Empty(f, head) })
	if empty != (len(want) == 0) {
		t.Errorf("list %d of %v: Empty %t", head, want, empty)
	}
	holds(t, m, before...)
}

// alone fails the test, unless both words of n are its own address.
func alone(t *testing.T, m *word.Mem, n int) {
	t.Helper()
	if at(m, n) != n || at(m, n+1) != n {
		t.Errorf("node %d: %d, %d", n, at(m, n), at(m, n+1))
	}
}

// P5.1: a node's words.
func TestWords(t *testing.T) {
	if list.Words != 2 {
		t.Error(list.Words)
	}
}

// P5.1: Init, at all places of a memory, whatever stood there: the head's two words are its
// own address, and no other one is touched.
func TestInit(t *testing.T) {
	for head := range 9 {
		m := strange(10)
		want := m.Words()
		want[head], want[head+1] = int64(head), int64(head)
		play(t, m, initial(head))
		holds(t, m, want...)
		stands(t, m, head)
	}
}

// P5.1: Init of a head that had nodes: it stands alone, and they are as they were.
func TestInitAnew(t *testing.T) {
	m := word.New(8)
	play(t, m, initial(2))
	play(t, m, appends(2, 4))
	play(t, m, appends(2, 6))
	play(t, m, initial(2))
	holds(t, m, 0, 0, 2, 2, 6, 2, 2, 4)
	stands(t, m, 2)
}

// P5.1, the example: Append a, Append b, Prepend c: c, a, b.
func TestExample(t *testing.T) {
	const head, a, b, c = 0, 2, 4, 6
	m := word.New(8)
	play(t, m, initial(head))
	play(t, m, appends(head, a))
	play(t, m, appends(head, b))
	play(t, m, prepends(head, c))
	stands(t, m, head, c, a, b)
	holds(t, m, c, b, b, c, head, a, a, head)
}

// P5.1: each call's words: what is ahead of it, and what stands there behind it. The head is
// at 2, nodes at 4, 6, 8; the words at 0 and 10 belong to nobody.
func TestWordsBehindEachCall(t *testing.T) {
	for i, c := range []struct {
		words []int64
		call  frame.Body
		want  []int64
	}{
		{[]int64{-1, -2, 2, 2, 77, -7}, appends(2, 4), []int64{-1, -2, 4, 4, 2, 2}},
		{[]int64{-1, -2, 2, 2, 77, -7}, prepends(2, 4), []int64{-1, -2, 4, 4, 2, 2}},
		{[]int64{-1, -2, 2, 2, 77, -7}, puts(2, 4), []int64{-1, -2, 4, 4, 2, 2}},
		{[]int64{-1, -2, 4, 4, 2, 2, 6, 6}, appends(2, 6), []int64{-1, -2, 4, 6, 6, 2, 2, 4}},
		{[]int64{-1, -2, 4, 4, 2, 2, 6, 6}, prepends(2, 6), []int64{-1, -2, 6, 4, 2, 6, 4, 2}},
		{[]int64{-1, -2, 4, 4, 2, 2, 6, 6}, puts(2, 6), []int64{-1, -2, 4, 6, 6, 2, 2, 4}},
		{[]int64{-1, -2, 4, 4, 2, 2, 6, 6}, puts(4, 6), []int64{-1, -2, 6, 4, 2, 6, 4, 2}},
		{[]int64{-1, -2, 4, 6, 6, 2, 2, 4, 8, 8}, puts(6, 8), []int64{-1, -2, 4, 6, 8, 2, 2, 8, 6, 4}},
		{[]int64{-1, -2, 4, 4, 2, 2}, removes(4), []int64{-1, -2, 2, 2, 4, 4}},
		{[]int64{-1, -2, 4, 6, 6, 2, 2, 4}, removes(4), []int64{-1, -2, 6, 6, 4, 4, 2, 2}},
		{[]int64{-1, -2, 4, 6, 6, 2, 2, 4}, removes(6), []int64{-1, -2, 4, 4, 2, 2, 6, 6}},
		{[]int64{-1, -2, 4, 8, 6, 2, 8, 4, 2, 6, -3}, removes(6), []int64{-1, -2, 4, 8, 8, 2, 6, 6, 2, 4, -3}},
		{[]int64{-1, -2, 2, 2, 4, 4}, removes(4), []int64{-1, -2, 2, 2, 4, 4}},
		{[]int64{-1, -2, 2, 2, 4, 4}, nothing, []int64{-1, -2, 2, 2, 4, 4}},
	} {
		m := filled(c.words...)
		play(t, m, c.call)
		if got := m.Words(); !slices.Equal(got, c.want) {
			t.Errorf("call %d: %v, want %v", i, got, c.want)
		}
	}
}

// P5.1: a head that stands alone, at 0 and elsewhere: no first one, none behind it.
func TestHeadAlone(t *testing.T) {
	for _, head := range []int{0, 3, 7} {
		m := strange(9)
		play(t, m, initial(head))
		n, ok := 1, true
		play(t, m, func(f *frame.Frame) { n, ok = list.First(f, head) })
		if n != 0 || ok {
			t.Errorf("First of %d: %d, %t", head, n, ok)
		}
		n, ok = 1, true
		play(t, m, func(f *frame.Frame) { n, ok = list.Next(f, head, head) })
		if n != 0 || ok {
			t.Errorf("Next of %d: %d, %t", head, n, ok)
		}
		empty := false
		play(t, m, func(f *frame.Frame) { empty = list.Empty(f, head) })
		if !empty {
			t.Errorf("Empty of %d: false", head)
		}
	}
}

// P5.1: a node at the address 0 is one like others: found, and told from none.
func TestNodeAtZero(t *testing.T) {
	m := word.New(6)
	play(t, m, initial(4))
	play(t, m, appends(4, 0))
	n, ok := 9, false
	play(t, m, func(f *frame.Frame) { n, ok = list.First(f, 4) })
	if n != 0 || !ok {
		t.Error(n, ok)
	}
	play(t, m, prepends(4, 2))
	play(t, m, func(f *frame.Frame) { n, ok = list.Next(f, 4, 2) })
	if n != 0 || !ok {
		t.Error(n, ok)
	}
	stands(t, m, 4, 2, 0)
	play(t, m, removes(0))
	stands(t, m, 4, 2)
	alone(t, m, 0)
}

// P5.1: Next of each node, the last one, and the head.
func TestNext(t *testing.T) {
	m := word.New(10)
	play(t, m, initial(4))
	for _, n := range []int{8, 0, 6} {
		play(t, m, appends(4, n))
	}
	for _, c := range []struct {
		n, want int
		ok      bool
	}{{4, 8, true}, {8, 0, true}, {0, 6, true}, {6, 0, false}} {
		n, ok := -1, !c.ok
		play(t, m, func(f *frame.Frame) { n, ok = list.Next(f, 4, c.n) })
		if n != c.want || ok != c.ok {
			t.Errorf("Next of %d: %d, %t", c.n, n, ok)
		}
	}
}

// P5.1: the first, the last, the only node and one amid others are removed; each one's words
// are its own address, and it may come back.
func TestRemove(t *testing.T) {
	for _, gone := range []int{2, 4, 6, 8} {
		m := word.New(10)
		play(t, m, initial(0))
		left := []int{}
		for n := 2; n <= 8; n += 2 {
			play(t, m, appends(0, n))
			if n != gone {
				left = append(left, n)
			}
		}
		play(t, m, removes(gone))
		stands(t, m, 0, left...)
		alone(t, m, gone)
		play(t, m, removes(gone))
		stands(t, m, 0, left...)
		alone(t, m, gone)
		play(t, m, prepends(0, gone))
		stands(t, m, 0, append([]int{gone}, left...)...)
		for _, n := range left {
			play(t, m, removes(n))
			alone(t, m, n)
		}
		stands(t, m, 0, gone)
		play(t, m, removes(gone))
		stands(t, m, 0)
		alone(t, m, gone)
	}
}

// P5.1: Ahead of the first node, of the head, and of one amid others.
func TestAhead(t *testing.T) {
	m := word.New(14)
	play(t, m, initial(6))
	play(t, m, puts(6, 2)) // of a head that stands alone
	stands(t, m, 6, 2)
	play(t, m, puts(2, 4)) // of the first one
	stands(t, m, 6, 4, 2)
	play(t, m, puts(6, 8)) // of the head: the last one
	stands(t, m, 6, 4, 2, 8)
	play(t, m, puts(8, 10))
	stands(t, m, 6, 4, 2, 10, 8)
	play(t, m, puts(4, 0))
	stands(t, m, 6, 0, 4, 2, 10, 8)
	play(t, m, puts(2, 12))
	stands(t, m, 6, 0, 4, 12, 2, 10, 8)
}

// P5.1: a node that goes from one list to another, in one memory, one body for both calls.
func TestFromListToList(t *testing.T) {
	m := word.New(10)
	play(t, m, initial(0))
	play(t, m, initial(8))
	for n := 2; n <= 6; n += 2 {
		play(t, m, appends(0, n))
	}
	for turn, n := range []int{4, 2, 6} {
		play(t, m, func(f *frame.Frame) {
			list.Remove(f, n)
			list.Append(f, 8, n)
		})
		stands(t, m, 0, [][]int{{2, 6}, {6}, {}}[turn]...)
		stands(t, m, 8, [][]int{{4}, {4, 2}, {4, 2, 6}}[turn]...)
	}
}

// P5.1: a whole list is taken down by one body, which reads it by Next while it does.
func TestTakeDown(t *testing.T) {
	m := word.New(12)
	play(t, m, initial(10))
	for _, n := range []int{4, 0, 8, 2, 6} {
		play(t, m, appends(10, n))
	}
	var took []int
	steps(t, m, func(f *frame.Frame) {
		took = nil
		for n, ok := list.First(f, 10); ok; n, ok = list.First(f, 10) {
			list.Remove(f, n)
			took = append(took, n)
		}
	})
	if !slices.Equal(took, []int{4, 0, 8, 2, 6}) {
		t.Error(took)
	}
	holds(t, m, 0, 0, 2, 2, 4, 4, 6, 6, 8, 8, 10, 10)
}

// model is two lists as they should stand, and the memory they stand in.
type model struct {
	mem   *word.Mem
	heads [2]int
	lists [2][]int
	free  []int
}

// newModel makes two lists of no nodes, and so many nodes that stand in none.
func newModel(t *testing.T, nodes int) *model {
	t.Helper()
	// One head stands amid the nodes, one behind them, and words that belong to nobody at both ends.
	m := strange(2*nodes + 6)
	s := &model{mem: m, heads: [2]int{3, 2*nodes + 3}}
	for n := 1; n < 2*nodes+5; n += 2 {
		play(t, m, initial(n))
		if n != s.heads[0] && n != s.heads[1] {
			s.free = append(s.free, n)
		}
	}
	return s
}

// clone answers a model of its own with the same words and nodes.
func (s *model) clone() *model {
	c := &model{mem: filled(s.mem.Words()...), heads: s.heads, free: slices.Clone(s.free)}
	for l := range s.lists {
		c.lists[l] = slices.Clone(s.lists[l])
	}
	return c
}

// take answers the k-th free node, which is none any more.
func (s *model) take(k int) int {
	k %= len(s.free)
	n := s.free[k]
	s.free = slices.Delete(s.free, k, k+1)
	return n
}

// call does one call of list l, told by numbers, in the memory and in the model.
func (s *model) call(t *testing.T, kind, l, which, whom int) {
	t.Helper()
	nodes, head := &s.lists[l], s.heads[l]
	if kind == 3 {
		if len(*nodes) == 0 {
			return
		}
		k := which % len(*nodes)
		n := (*nodes)[k]
		play(t, s.mem, removes(n))
		*nodes = slices.Delete(*nodes, k, k+1)
		s.free = append(s.free, n)
		return
	}
	if len(s.free) == 0 {
		return
	}
	n := s.take(which)
	switch kind {
	case 0:
		play(t, s.mem, appends(head, n))
		*nodes = append(*nodes, n)
	case 1:
		play(t, s.mem, prepends(head, n))
		*nodes = slices.Insert(*nodes, 0, n)
	case 2:
		k := whom % (len(*nodes) + 1)
		of := append(slices.Clone(*nodes), head)[k]
		play(t, s.mem, puts(of, n))
		*nodes = slices.Insert(*nodes, k, n)
	}
}

// check fails the test, unless the memory is as the model says.
func (s *model) check(t *testing.T, order any) {
	t.Helper()
	for l, head := range s.heads {
		stands(t, s.mem, head, s.lists[l]...)
	}
	for _, n := range s.free {
		alone(t, s.mem, n)
	}
	size := len(s.mem.Words())
	for _, a := range []int{0, size - 1} {
		if at(s.mem, a) != -1000-a {
			t.Errorf("word %d, of nobody: %d", a, at(s.mem, a))
		}
	}
	if t.Failed() {
		t.Fatalf("order %v", order)
	}
}

// P5.1: many calls by a rule, of two lists in one memory.
func TestManyCalls(t *testing.T) {
	for seed := range 60 {
		s := newModel(t, 1+seed%9)
		state := uint32(seed)*2654435761 + 1
		draw := func(n int) int {
			state = state*1664525 + 1013904223
			return int(state>>16) % n
		}
		for turn := range 80 {
			kind, l, which, whom := draw(4), draw(2), draw(64), draw(64)
			s.call(t, kind, l, which, whom)
			s.check(t, []int{seed, turn, kind, l, which, whom})
		}
	}
}

// follow does every order of so many calls, of every kind and place, in a model of its own.
func follow(t *testing.T, s *model, order []string, depth int) {
	t.Helper()
	s.check(t, order)
	if depth == 0 {
		return
	}
	for kind := range 4 {
		for l := range 2 {
			for place := range len(s.lists[l]) + 1 {
				if kind < 2 && place > 0 || kind == 3 && place == len(s.lists[l]) {
					continue
				}
				c := s.clone()
				c.call(t, kind, l, place, place)
				follow(t, c, append(slices.Clone(order), fmt.Sprint(kind, l, place)), depth-1)
			}
		}
	}
}

// P5.1: every order of five calls, at every place of two lists.
func TestEveryOrder(t *testing.T) {
	follow(t, newModel(t, 3), nil, 5)
}

// answers is what one step's calls answered.
type answers struct {
	n      int
	ok, is bool
	off    bool
}

// P5.1: a frame that goes off in the midst of each call that answers: 0, false, and true for
// Empty, also where the list is not empty; with the step that does the last access what is.
func TestAnswersGoOff(t *testing.T) {
	m := filled(0, 0, 4, 6, 6, 2, 2, 4) // the list of 2: 4, 6
	for _, c := range []struct {
		name string
		call func(f *frame.Frame) answers
		off  answers
		want answers
	}{
		{"Empty", func(f *frame.Frame) answers { return answers{is: list.Empty(f, 2)} },
			answers{is: true, off: true}, answers{}},
		{"First", func(f *frame.Frame) answers { n, ok := list.First(f, 2); return answers{n: n, ok: ok} },
			answers{off: true}, answers{n: 4, ok: true}},
		{"Next", func(f *frame.Frame) answers { n, ok := list.Next(f, 2, 4); return answers{n: n, ok: ok} },
			answers{off: true}, answers{n: 6, ok: true}},
	} {
		before := m.Words()
		var got answers
		body := func(f *frame.Frame) {
			f.Load(0) // so that the first step has none left
			got = c.call(f)
			got.off = f.Off()
		}
		f := frame.New(m)
		for now := 0; !f.Step(now, body); now++ {
			if got != c.off {
				t.Errorf("%s, step %d: %+v", c.name, now, got)
			}
			if now > most {
				t.Fatalf("%s is not done", c.name)
			}
		}
		if got != c.want || f.Steps() < 2 {
			t.Errorf("%s: %+v with %d accesses", c.name, got, f.Steps())
		}
		holds(t, m, before...)
	}
}

// P5.1: each call, step by step: at most one access a step, no word that isn't of the nodes
// it is about, and behind the last step what one go does; the call goes on where it was,
// also if others' words change in between.
func TestCallsGoOff(t *testing.T) {
	for name, call := range map[string]frame.Body{
		"Init": initial(8), "Append": appends(2, 8), "Prepend": prepends(2, 8), "Ahead": puts(6, 8),
		"Remove": removes(4), "Remove the last one": removes(6),
	} {
		words := []int64{-5, -6, 4, 6, 6, 2, 2, 4, 8, 8, 70, 71}
		m, whole := filled(words...), filled(words...)
		play(t, whole, call)
		off := false
		body := func(f *frame.Frame) { call(f); off = f.Off() }
		f := frame.New(m)
		for now := 0; ; now++ {
			before := m.Words()
			done := f.Step(now, body)
			if f.Steps() != now+1 || off == done || changed(before, m.Words()) > 1 {
				t.Errorf("%s, step %d: done %t, Off %t, %d accesses", name, now, done, off, f.Steps())
			}
			if done || now > most {
				break
			}
			m.Store(10, int64(now)) // another's word
		}
		m.Store(10, 70)
		holds(t, m, whole.Words()...)
	}
}

// changed tells how many words are others.
func changed(before, behind []int64) int {
	n := 0
	for a := range before {
		if before[a] != behind[a] {
			n++
		}
	}
	return n
}

// P5.1: calls that the frame goes off with, and those while it is off: nothing is done.
func TestFrameIsOff(t *testing.T) {
	words := []int64{-5, -6, 4, 6, 6, 2, 2, 4, 8, 8}
	m := filled(words...)
	f := frame.New(m)
	ran := false
	done := f.Step(0, func(f *frame.Frame) {
		f.Load(0)
		for range 2 {
			checkOff(t, f, 2, 4)
			if !f.Off() {
				t.Error("calls behind the step's access, and the frame is not off")
			}
		}
		ran = true
	})
	if done || !ran || f.Steps() != 1 {
		t.Errorf("done %t, ran %t, %d accesses", done, ran, f.Steps())
	}
	holds(t, m, words...)
	for name, call := range map[string]frame.Body{
		"Init": initial(2), "Append": appends(2, 8), "Prepend": prepends(2, 8),
		"Ahead": puts(6, 8), "Remove": removes(4),
		"Empty": func(f *frame.Frame) { list.Empty(f, 2) },
		"First": func(f *frame.Frame) { list.First(f, 2) },
		"Next":  func(f *frame.Frame) { list.Next(f, 2, 4) },
	} {
		g := frame.New(m)
		g.Step(0, func(f *frame.Frame) {
			f.Load(0)
			call(f)
			if !f.Off() {
				t.Errorf("%s behind the step's access, and the frame is not off", name)
			}
		})
		holds(t, m, words...)
	}
}

// checkOff does every call of a frame that is off.
func checkOff(t *testing.T, f *frame.Frame, head, n int) {
	t.Helper()
	if !list.Empty(f, head) {
		t.Errorf("Empty of %d: false", head)
	}
	if got, ok := list.First(f, head); got != 0 || ok {
		t.Errorf("First of %d: %d, %t", head, got, ok)
	}
	if got, ok := list.Next(f, head, n); got != 0 || ok {
		t.Errorf("Next of %d, %d: %d, %t", head, n, got, ok)
	}
	list.Init(f, head)
	list.Append(f, head, n)
	list.Prepend(f, head, n)
	list.Ahead(f, head, n)
	list.Remove(f, n)
}

// addresses are some that are none in a memory of ten words, and some that are.
var addresses = []int{0, 1, 4, 8, 9, 10, 11, 3999, 4000, -1, -2, -4000, 1 << 32, math.MaxInt, math.MaxInt - 1, math.MinInt, math.MinInt + 1}

// R1, P5.1 with P2.1: a nil frame, and one out of a step, are off: nothing is done, and the
// answers are those of a frame that is off.
func TestWithoutAStep(t *testing.T) {
	words := []int64{-5, -6, 4, 6, 6, 2, 2, 4, 8, 8}
	m := filled(words...)
	fresh, over, done := frame.New(m), frame.New(m), frame.New(m)
	over.Step(0, func(f *frame.Frame) { f.Load(0); f.Load(0) })
	done.Step(0, func(f *frame.Frame) { f.Load(0) })
	for _, f := range []*frame.Frame{nil, fresh, over, done} {
		before := f.Steps()
		for _, head := range addresses {
			for _, n := range addresses {
				checkOff(t, f, head, n)
			}
		}
		if f.Steps() != before {
			t.Errorf("%d accesses", f.Steps()-before)
		}
		holds(t, m, words...)
	}
}

// R1, P5.1 with P2.1: of an address that is none a word is 0, and nothing is written: so
// calls of a head and nodes that aren't there end, and change no word.
func TestAddressThatIsNone(t *testing.T) {
	for _, m := range []*word.Mem{word.New(0), nil} {
		for _, head := range addresses {
			for _, n := range addresses {
				everyCall(t, m, head, n)
			}
		}
	}
	// A word at 0 that is none of theirs: the words that aren't there lead to it alone.
	for _, head := range []int{10, 4000, -2, math.MaxInt, math.MinInt} {
		for _, n := range []int{10, 4000, -2, math.MaxInt, math.MinInt} {
			m := strange(10)
			before := m.Words()
			everyCall(t, m, head, n)
			if got := m.Words(); !slices.Equal(got[2:], before[2:]) {
				t.Errorf("head %d, node %d: %v", head, n, got)
			}
		}
	}
}

// R1, P5.1: what First and Next answer of a head that isn't there: its word is 0.
func TestHeadThatIsNone(t *testing.T) {
	m := strange(4)
	for _, head := range []int{4, 4000, -1, math.MaxInt, math.MinInt} {
		n, ok := 7, false
		play(t, m, func(f *frame.Frame) { n, ok = list.First(f, head) })
		if n != 0 || !ok {
			t.Errorf("First of %d: %d, %t", head, n, ok)
		}
	}
}

// everyCall does every call with a head and a node; each ends, with no more accesses than a
// call of this layer does.
func everyCall(t *testing.T, m *word.Mem, head, n int) {
	t.Helper()
	for _, call := range []frame.Body{
		func(f *frame.Frame) { list.Empty(f, head) },
		func(f *frame.Frame) { list.First(f, head) },
		func(f *frame.Frame) { list.Next(f, head, n) },
		removes(n), appends(head, n), prepends(head, n), puts(n, head), puts(head, n),
		removes(n), removes(head), initial(head),
	} {
		play(t, m, call)
	}
}

// R1, P5.1: calls end where nodes don't stand where they should: words that are no addresses,
// rings without a head, nodes that overlap, nodes that are put where they are.
func TestNodesElsewhere(t *testing.T) {
	values := []int64{0, 1, 2, 3, 5, 9, 10, -1, 4000, 1 << 40, math.MaxInt64, math.MinInt64}
	state := uint32(1)
	for range 300 {
		m := word.New(10)
		for a := range 10 {
			state = state*1664525 + 1013904223
			m.Store(a, values[int(state>>16)%len(values)])
		}
		for _, head := range addresses {
			everyCall(t, m, head, addresses[int(state>>20)%len(addresses)])
		}
	}
	for head := range 4 {
		for n := range 4 {
			m := word.New(5)
			play(t, m, initial(head))
			everyCall(t, m, head, n)
		}
	}
}

// R1: a ring that never comes to its head: each Next of it ends.
func TestRingWithoutItsHead(t *testing.T) {
	m := filled(2, 2, 4, 4, 2, 2) // the head's first is 2, and 2 and 4 lead to each other
	n := 0
	for range 50 {
		ok := false
		play(t, m, func(f *frame.Frame) { n, ok = list.Next(f, 0, n) })
		if !ok {
			t.Fatal("an end")
		}
	}
}

// R2, R3: what a call answers depends on its arguments and its frame's accesses alone: not on
// lists of other memories, nor on what was called ahead of it.
func TestSameHistorySameAnswers(t *testing.T) {
	other := word.New(20)
	play(t, other, initial(0))
	run := func() []int64 {
		m := word.New(10)
		play(t, m, initial(0))
		play(t, m, appends(0, 4))
		play(t, m, prepends(0, 6))
		play(t, other, appends(0, 4))
		play(t, other, removes(4))
		play(t, m, puts(4, 8))
		play(t, m, removes(6))
		stands(t, m, 0, 8, 4)
		return m.Words()
	}
	one := run()
	if two := run(); !slices.Equal(one, two) {
		t.Errorf("%v, then %v", one, two)
	}
}

// P5.1 with P2.3: two bodies, each with a list of its own in one memory, in turns by a rule:
// both lists are as if each body had been alone.
func TestTwoListsInTurns(t *testing.T) {
	work := func(head int) frame.Body {
		a, b, c := head+2, head+4, head+6
		return func(f *frame.Frame) {
			list.Init(f, head)
			list.Append(f, head, a)
			list.Prepend(f, head, b)
			list.Ahead(f, a, c)
			if n, ok := list.First(f, head); ok {
				list.Remove(f, n)
			}
		}
	}
	for seed := range 200 {
		m := strange(16)
		one, two := frame.New(m), frame.New(m)
		state := uint32(seed)*2654435761 + 1
		for now := 0; now < 200 && (!one.Done() || !two.Done()); now++ {
			state = state*1664525 + 1013904223
			if state>>16&1 == 0 {
				one.Step(now, work(0))
			} else {
				two.Step(now, work(8))
			}
		}
		if !one.Done() || !two.Done() {
			t.Fatal("not done")
		}
		stands(t, m, 0, 6, 2)
		stands(t, m, 8, 14, 10)
		alone(t, m, 4)
		alone(t, m, 12)
	}
}
