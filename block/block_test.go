package block_test

import (
	"fmt"
	"math"
	"slices"
	"testing"

	"septum/api"
	"septum/block"
	"septum/frame"
	"septum/word"
)

// most is how many accesses a call of this layer may do.
const most = 60

// taken is the word of a block that isn't free.
const taken = -1

// filled makes a memory that holds the given words.
func filled(words ...int64) *word.Mem {
	m := word.New(len(words))
	for a, v := range words {
		m.Store(a, v)
	}
	return m
}

// strange makes so many words that no call stores, each another one.
func strange(size int) []int64 {
	words := make([]int64, size)
	for a := range words {
		words[a] = -1000 - int64(a)
	}
	return words
}

// holds fails the test, unless m holds just the given words.
func holds(t *testing.T, m *word.Mem, want []int64) {
	t.Helper()
	got := m.Words()
	if len(got) != len(want) {
		t.Fatalf("%d words, want %d", len(got), len(want))
	}
	for a := range want {
		if got[a] != want[a] {
			t.Errorf("word %d: %d, want %d", a, got[a], want[a])
		}
	}
}

// play plays one call to its end, and answers how many accesses it did: at most most.
func play(t *testing.T, m *word.Mem, body frame.Body) int {
	t.Helper()
	f := frame.New(m)
	for now := range 200 {
		if f.Step(now, body) {
			if f.Steps() > most {
				t.Errorf("%d accesses in one call", f.Steps())
			}
			return f.Steps()
		}
	}
	t.Fatal("the body is not done")
	return 0
}

// answer is what a call answers: a block, and whether it did what it is for.
type answer struct {
	i  int
	ok bool
}

// none is what a call answers that did nothing.
var none = answer{}

// The calls as bodies that tell what they were answered.

func inits(at, n int) frame.Body { return func(f *frame.Frame) { block.Init(f, at, n) } }

func takes(at, n int, a *answer) frame.Body {
	return func(f *frame.Frame) { a.i, a.ok = block.Take(f, at, n) }
}

func gives(at, n, i int, a *answer) frame.Body {
	return func(f *frame.Frame) { *a = answer{ok: block.Give(f, at, n, i)} }
}

func frees(at, n, i int, a *answer) frame.Body {
	return func(f *frame.Frame) { *a = answer{ok: block.Free(f, at, n, i)} }
}

// The calls in frames of their own.

func take(t *testing.T, m *word.Mem, at, n int) answer {
	t.Helper()
	a := answer{-77, true}
	play(t, m, takes(at, n, &a))
	return a
}

func give(t *testing.T, m *word.Mem, at, n, i int) bool {
	t.Helper()
	a := answer{}
	play(t, m, gives(at, n, i, &a))
	return a.ok
}

func free(t *testing.T, m *word.Mem, at, n, i int) bool {
	t.Helper()
	a := answer{}
	play(t, m, frees(at, n, i, &a))
	return a.ok
}

// set is a set as it should stand: its free blocks, the first one first.
type set struct {
	at, n int
	free  []int
}

// words answers what the set's words should hold.
func (s set) words() []int64 {
	words := make([]int64, s.n+1)
	for i := range s.n {
		words[1+i] = taken
	}
	place := 0
	for _, i := range s.free {
		words[place] = int64(i + 1)
		place = i + 1
	}
	words[place] = 0
	return words
}

// model is sets of one memory as they should stand.
type model struct {
	mem  *word.Mem
	sets []set
}

// newModel makes sets of the sizes, behind an Init each, with words that belong to nobody around
// them. Set by set there are gap words between.
func newModel(t *testing.T, gap int, sizes ...int) *model {
	t.Helper()
	s := &model{}
	at := 1
	for _, n := range sizes {
		s.sets = append(s.sets, set{at: at, n: n})
		at += n + 1 + gap
	}
	s.mem = filled(strange(at + 1)...)
	for k := range s.sets {
		s.init(t, k)
	}
	s.check(t, "Init")
	return s
}

// clone answers a model of its own that stands as s does.
func (s *model) clone() *model {
	c := &model{mem: filled(s.mem.Words()...), sets: slices.Clone(s.sets)}
	for k := range c.sets {
		c.sets[k].free = slices.Clone(c.sets[k].free)
	}
	return c
}

// init makes all blocks of a set free.
func (s *model) init(t *testing.T, k int) {
	t.Helper()
	e := &s.sets[k]
	play(t, s.mem, inits(e.at, e.n))
	e.free = nil
	for i := range e.n {
		e.free = append(e.free, i)
	}
}

// take fails the test, unless Take answers what it should, and answers that.
func (s *model) take(t *testing.T, k int) answer {
	t.Helper()
	e := &s.sets[k]
	want := none
	if len(e.free) > 0 {
		want = answer{e.free[0], true}
		e.free = e.free[1:]
	}
	if got := take(t, s.mem, e.at, e.n); got != want {
		t.Errorf("Take: %v, want %v", got, want)
	}
	return want
}

// give fails the test, unless Give answers what it should, and answers that.
func (s *model) give(t *testing.T, k, i int) bool {
	t.Helper()
	e := &s.sets[k]
	want := i >= 0 && i < e.n && !slices.Contains(e.free, i)
	if want {
		e.free = append([]int{i}, e.free...)
	}
	if got := give(t, s.mem, e.at, e.n, i); got != want {
		t.Errorf("Give of %d: %t, want %t", i, got, want)
	}
	return want
}

// ask fails the test, unless Free answers what it should.
func (s *model) ask(t *testing.T, k, i int) {
	t.Helper()
	e := &s.sets[k]
	want := slices.Contains(e.free, i)
	if got := free(t, s.mem, e.at, e.n, i); got != want {
		t.Errorf("Free of %d: %t, want %t", i, got, want)
	}
}

// askAll asks of each block of a set, and of those that it lacks on both sides.
func (s *model) askAll(t *testing.T, k int) {
	t.Helper()
	for i := -1; i <= s.sets[k].n; i++ {
		s.ask(t, k, i)
	}
}

// check fails the test, unless every word is as the model says.
func (s *model) check(t *testing.T, how ...any) {
	t.Helper()
	want := strange(s.mem.Len())
	for _, e := range s.sets {
		copy(want[e.at:], e.words())
	}
	holds(t, s.mem, want)
	if t.Failed() {
		t.Fatal(how...)
	}
}

// noSizes are some of which nothing is done.
var noSizes = []int{0, -1, -2, -3, -16, -17, -1 << 32, 1<<32 + 3, 17, 18, 19, 32, 4000,
	math.MaxInt, math.MaxInt - 1, math.MaxInt - 2, math.MinInt, math.MinInt + 1, math.MinInt + 3}

// noBlocks answers some that a set of n blocks lacks.
func noBlocks(n int) []int {
	return []int{-1, -2, -n, -n - 1, n, n + 1, 2 * n, 2*n + 1, 17, 256, 3999, 4000, -1 << 32, 1 << 32, 1<<32 - 1,
		math.MaxInt, math.MaxInt - 1, math.MaxInt - 2, math.MinInt, math.MinInt + 1, math.MinInt + n}
}

// P9.1: Words: n and 1 of each size, 0 of what is none.
func TestWords(t *testing.T) {
	for n := 1; n <= api.MaxSize; n++ {
		if got := block.Words(n); got != n+1 {
			t.Errorf("Words(%d): %d", n, got)
		}
	}
	for _, n := range noSizes {
		if got := block.Words(n); got != 0 {
			t.Errorf("Words(%d): %d", n, got)
		}
	}
}

// P9.1, the example: Init of 3; Take, Take, Give 0, Take: 0, 1, true, 0.
func TestExample(t *testing.T) {
	m := filled(7, 7, 7, 7)
	play(t, m, inits(0, 3))
	holds(t, m, []int64{1, 2, 3, 0})
	if a := take(t, m, 0, 3); a != (answer{0, true}) {
		t.Error(a)
	}
	holds(t, m, []int64{2, -1, 3, 0})
	if a := take(t, m, 0, 3); a != (answer{1, true}) {
		t.Error(a)
	}
	holds(t, m, []int64{3, -1, -1, 0})
	if !give(t, m, 0, 3, 0) {
		t.Error("Give 0: false")
	}
	holds(t, m, []int64{1, 3, -1, 0})
	if a := take(t, m, 0, 3); a != (answer{0, true}) {
		t.Error(a)
	}
	holds(t, m, []int64{3, -1, -1, 0})
}

// P9.1: a set of 1 block, word by word.
func TestOneBlock(t *testing.T) {
	m := filled(-5, 8, 9, -6)
	play(t, m, inits(1, 1))
	holds(t, m, []int64{-5, 1, 0, -6})
	if give(t, m, 1, 1, 0) || !free(t, m, 1, 1, 0) {
		t.Error("at first it isn't free")
	}
	for range 3 {
		if a := take(t, m, 1, 1); a != (answer{0, true}) {
			t.Error(a)
		}
		holds(t, m, []int64{-5, 0, -1, -6})
		if a := take(t, m, 1, 1); a != none || free(t, m, 1, 1, 0) {
			t.Error(a, "or it is free")
		}
		holds(t, m, []int64{-5, 0, -1, -6})
		if !give(t, m, 1, 1, 0) || give(t, m, 1, 1, 0) || !free(t, m, 1, 1, 0) {
			t.Error("it isn't given back, or twice")
		}
		holds(t, m, []int64{-5, 1, 0, -6})
	}
}

// P9.1: Init: all are free, 0 first, then 1, and so on, whatever stood in the set's words: also if
// blocks of it are taken, however many.
func TestInit(t *testing.T) {
	for n := 1; n <= api.MaxSize; n++ {
		s := newModel(t, 1, n)
		s.askAll(t, 0)
		for gone := range n + 1 {
			for range gone {
				s.take(t, 0)
			}
			if gone > 1 {
				s.give(t, 0, 0)
			}
			s.init(t, 0)
			s.check(t, "Init", n, gone)
			s.askAll(t, 0)
			for i := range n {
				if a := s.take(t, 0); a != (answer{i, true}) {
					t.Errorf("%d blocks: %v, want %d", n, a, i)
				}
			}
			s.check(t, "taken", n, gone)
			s.init(t, 0)
			s.check(t, "Init of one with none free", n, gone)
		}
	}
}

// P9.1: Init of words of any kind, that no Init has seen before.
func TestInitOfAnyWords(t *testing.T) {
	for n := 1; n <= api.MaxSize; n++ {
		for _, v := range []int64{0, -1, 1, 17, math.MaxInt64, math.MinInt64} {
			words := slices.Repeat([]int64{v}, n+3)
			m := filled(words...)
			play(t, m, inits(1, n))
			for i := range n {
				words[1+i] = int64(i + 1)
			}
			words[1+n] = 0
			holds(t, m, words)
		}
	}
}

// orders answers some orders of the numbers up to n: each number once.
func orders(n int) [][]int {
	var up, down, odd, even, far []int
	for i := range n {
		up = append(up, i)
		down = append(down, n-1-i)
		if i%2 == 0 {
			even = append(even, i)
		} else {
			odd = append(odd, i)
		}
	}
	for i := range n {
		k := i / 2
		if i%2 == 1 {
			k = n - 1 - i/2
		}
		far = append(far, k)
	}
	return [][]int{up, down, append(odd, even...), far}
}

// P9.1: sets of each size: all are taken, and one too many isn't; they are given back in several
// orders, and taken again: the one that was given back last is taken first.
func TestTakeAndGiveAll(t *testing.T) {
	for n := 1; n <= api.MaxSize; n++ {
		for _, order := range orders(n) {
			s := newModel(t, 1, n)
			for s.take(t, 0).ok {
				s.check(t, "Take", n)
				s.askAll(t, 0)
			}
			s.check(t, "Take of none", n)
			for _, i := range order {
				s.give(t, 0, i)
				s.check(t, "Give", n, order, i)
				s.askAll(t, 0)
			}
			for k := n - 1; k >= 0; k-- {
				if a := s.take(t, 0); a != (answer{order[k], true}) {
					t.Errorf("%d blocks, given in the order %v: %v, want %d", n, order, a, order[k])
				}
				s.check(t, "Take again", n, order)
			}
			s.take(t, 0)
			s.check(t, "Take of none again", n, order)
		}
	}
}

// P9.1: some are taken, some of these given back, so that the free ones are of both kinds: those
// come first, and then those that never were taken, in the order of Init.
func TestSomeAreGivenBack(t *testing.T) {
	for n := 1; n <= api.MaxSize; n++ {
		for gone := range n + 1 {
			for step := 1; step <= 3; step++ {
				s := newModel(t, 0, n)
				for range gone {
					s.take(t, 0)
				}
				for i := 0; i < gone; i += step {
					s.give(t, 0, i)
					s.check(t, "Give", n, gone, step, i)
				}
				s.askAll(t, 0)
				for s.take(t, 0).ok {
					s.check(t, "Take", n, gone, step)
				}
				s.check(t, "none", n, gone, step)
			}
		}
	}
}

// P9.1: Give: false of a block that is free, first or last or between, and nothing has changed.
func TestGiveOfAFreeBlock(t *testing.T) {
	for _, n := range []int{1, 2, 3, 5, 16} {
		for gone := range n + 1 {
			s := newModel(t, 1, n)
			for range gone {
				s.take(t, 0)
			}
			for i := gone; i < n; i++ {
				if s.give(t, 0, i) {
					t.Errorf("Give of %d of %d, %d taken: true", i, n, gone)
				}
				s.check(t, n, gone, i)
			}
			for i := range gone {
				s.give(t, 0, i)
				if s.give(t, 0, i) {
					t.Errorf("a second Give of %d of %d: true", i, n)
				}
				s.check(t, n, gone, i)
			}
		}
	}
}

// P9.1: Give and Free: false, if there is no such block, and nothing has changed: with all free,
// some, and none.
func TestBlocksThatAreNone(t *testing.T) {
	for n := 1; n <= api.MaxSize; n++ {
		s := newModel(t, 1, n)
		for {
			for _, i := range noBlocks(n) {
				if give(t, s.mem, 1, n, i) {
					t.Errorf("Give of %d of %d: true", i, n)
				}
				if free(t, s.mem, 1, n, i) {
					t.Errorf("Free of %d of %d: true", i, n)
				}
				s.check(t, n, i)
			}
			if !s.take(t, 0).ok {
				break
			}
		}
	}
}

// P9.1: what stands right ahead of a set, and right behind it, is no block of it, even if it is
// the word of one that is taken, or free.
func TestWordsBesideTheSet(t *testing.T) {
	for _, v := range []int64{-1, 0, 1, 2} {
		for n := 1; n <= api.MaxSize; n++ {
			words := slices.Repeat([]int64{v}, n+5)
			copy(words[2:], set{n: n}.words())
			for _, i := range []int{-2, -1, n, n + 1} {
				m := filled(words...)
				if give(t, m, 2, n, i) || free(t, m, 2, n, i) {
					t.Errorf("a block %d of %d", i, n)
				}
				holds(t, m, words)
			}
		}
	}
}

// follow does every order of calls, so many of them, of one set.
func follow(t *testing.T, s *model, left int, how []string) {
	if left == 0 {
		return
	}
	do := func(name string, call func(next *model)) {
		next, how := s.clone(), append(slices.Clone(how), name)
		call(next)
		next.check(t, how)
		next.askAll(t, 0)
		next.check(t, how, "Free")
		follow(t, next, left-1, how)
	}
	do("Init", func(next *model) { next.init(t, 0) })
	do("Take", func(next *model) { next.take(t, 0) })
	for i := range s.sets[0].n + 1 {
		do(fmt.Sprint("Give ", i), func(next *model) { next.give(t, 0, i) })
	}
}

// P9.1: every order of five to seven calls, of small sets, with Free between.
func TestEveryOrderOfCalls(t *testing.T) {
	for n, calls := range map[int]int{1: 7, 2: 6, 3: 5} {
		follow(t, newModel(t, 1, n), calls, []string{fmt.Sprint(n, " blocks")})
	}
	// From a set of which all are taken, too, so that the free ones come in every order.
	s := newModel(t, 0, 4)
	for s.take(t, 0).ok {
		s.check(t)
	}
	follow(t, s, 5, []string{"4 blocks, all taken"})
}

// P9.1: several sets in one memory, side by side, by a rule: each is as if it were alone.
func TestManyCalls(t *testing.T) {
	for seed := range 8 {
		s := newModel(t, seed%2, 3, 1, 16, 2, 5)
		state := uint32(seed)*2654435761 + 1
		draw := func(n int) int {
			state = state*1664525 + 1013904223
			return int(state>>16) % n
		}
		for step := range 1500 {
			k := draw(len(s.sets))
			call, i := draw(60), draw(s.sets[k].n+2)-1
			switch {
			case call == 0:
				s.init(t, k)
			case call < 10:
				s.ask(t, k, i)
			// Now more are taken, now more are given back.
			case (call < 42) == (step/60%2 == 0):
				s.take(t, k)
			default:
				s.give(t, k, i)
			}
			s.check(t, seed, step)
		}
	}
}

// P9.1: two sets in one memory, right behind each other: a call of one changes nothing of the
// other, in whatever state that one is.
func TestTwoSets(t *testing.T) {
	for one := 1; one <= 4; one++ {
		for two := 1; two <= 4; two++ {
			s := newModel(t, 0, one, two)
			for s.take(t, 0).ok {
				s.check(t, one, two)
			}
			s.askAll(t, 1)
			for s.take(t, 1).ok {
				s.check(t, one, two)
			}
			s.give(t, 1, two-1)
			s.askAll(t, 0)
			s.give(t, 0, 0)
			s.check(t, one, two)
			s.askAll(t, 1)
			s.init(t, 1)
			s.check(t, one, two)
			s.askAll(t, 0)
		}
	}
}

// P9.1: the places of a memory at which a set may lie: its first words, and its last ones.
func TestEveryAddress(t *testing.T) {
	const size = 12
	for _, n := range []int{1, 3, 8, 11} {
		for at := range size - n {
			m, e := filled(strange(size)...), set{at: at, n: n}
			stands := func() {
				t.Helper()
				words := strange(size)
				copy(words[at:], e.words())
				holds(t, m, words)
			}
			play(t, m, inits(at, n))
			for i := range n {
				e.free = append(e.free, i)
			}
			stands()
			for i := range n {
				if a := take(t, m, at, n); a != (answer{i, true}) {
					t.Errorf("at %d, %d blocks: %v", at, n, a)
				}
				e.free = e.free[1:]
				stands()
			}
			if a := take(t, m, at, n); a != none {
				t.Errorf("at %d, %d blocks: %v", at, n, a)
			}
			if !give(t, m, at, n, n-1) || !free(t, m, at, n, n-1) {
				t.Errorf("at %d, %d blocks: Give or Free", at, n)
			}
			e.free = []int{n - 1}
			stands()
		}
	}
}

// P9.1: sets at the upper end of the greatest memory.
func TestGreatestMemory(t *testing.T) {
	const n = api.MaxSize
	const at = api.MaxWords - n - 1
	m := word.New(api.MaxWords)
	play(t, m, inits(at, n))
	for i := range n {
		if a := take(t, m, at, n); a != (answer{i, true}) {
			t.Errorf("%v, want %d", a, i)
		}
	}
	for i := range n {
		if !give(t, m, at, n, i) {
			t.Errorf("Give of %d: false", i)
		}
	}
	if a := take(t, m, at, n); a != (answer{n - 1, true}) {
		t.Error(a)
	}
}

// R2, R3: what a call answers depends on its arguments and its frame's accesses alone: not on sets
// of other memories, nor on what was called ahead of it.
func TestSameHistorySameAnswers(t *testing.T) {
	other := newModel(t, 1, 2)
	run := func() ([]int64, []answer) {
		s := newModel(t, 1, 5)
		var seen []answer
		for i := range 12 {
			seen = append(seen, s.take(t, 0), s.take(t, 0))
			other.take(t, 0)
			other.give(t, 0, i%2)
			s.give(t, 0, i%5)
		}
		return s.mem.Words(), seen
	}
	words, seen := run()
	again, seenAgain := run()
	if !slices.Equal(words, again) || !slices.Equal(seen, seenAgain) {
		t.Errorf("%v, then %v", seen, seenAgain)
	}
}
