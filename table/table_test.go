package table_test

import (
	"fmt"
	"math"
	"slices"
	"testing"

	"septum/api"
	"septum/frame"
	"septum/table"
	"septum/word"
)

// most is how many accesses a call of this layer may do.
const most = 60

// filled makes a memory that holds the given words.
func filled(words ...int64) *word.Mem {
	m := word.New(len(words))
	for a, v := range words {
		m.Store(a, v)
	}
	return m
}

// strange makes so many words that are no generations of few calls, each another one.
func strange(size int) []int64 {
	words := make([]int64, size)
	for a := range words {
		words[a] = -1000 - int64(a)
	}
	return words
}

// holds fails the test, unless m holds just the given words.
func holds(t *testing.T, m *word.Mem, want []int64) {
	t.Helper()
	if got := m.Words(); !slices.Equal(got, want) {
		t.Errorf("words %v, want %v", got, want)
	}
}

// play plays one call to its end, and answers how many accesses it did: at most most.
func play(t *testing.T, m *word.Mem, body frame.Body) int {
	t.Helper()
	f := frame.New(m)
	for now := range 200 {
		if f.Step(now, body) {
			if f.Steps() > most {
				t.Errorf("%d accesses in one call", f.Steps())
			}
			return f.Steps()
		}
	}
	t.Fatal("the body is not done")
	return 0
}

// answer is what a call answers: a handle or a slot, and whether there is one.
type answer struct {
	v  int64
	ok bool
}

// none is what a call answers that finds no slot.
var none = answer{}

// The calls as bodies that tell what they were answered.

func handles(at, n, i int, a *answer) frame.Body {
	return func(f *frame.Frame) { a.v, a.ok = table.Handle(f, at, n, i) }
}

func checks(at, n int, h int64, a *answer) frame.Body {
	return func(f *frame.Frame) {
		i, ok := table.Check(f, at, n, h)
		*a = answer{int64(i), ok}
	}
}

func nexts(at, n, i int, a *answer) frame.Body {
	return func(f *frame.Frame) { *a = answer{ok: table.Next(f, at, n, i)} }
}

// The calls in frames of their own.

func handle(t *testing.T, m *word.Mem, at, n, i int) answer {
	t.Helper()
	a := answer{-77, true}
	play(t, m, handles(at, n, i, &a))
	return a
}

func check(t *testing.T, m *word.Mem, at, n int, h int64) answer {
	t.Helper()
	a := answer{-77, true}
	play(t, m, checks(at, n, h, &a))
	return a
}

func next(t *testing.T, m *word.Mem, at, n, i int) bool {
	t.Helper()
	a := answer{}
	play(t, m, nexts(at, n, i, &a))
	return a.ok
}

// slots is a table as it should stand: the generation of each slot.
type slots struct {
	at  int
	age []int64
}

// handle answers the handle of a slot, in bits: they go round where a word's do.
func (s slots) handle(i int) int64 {
	return int64(uint64(i) + uint64(s.age[i])<<8)
}

// find answers the slot whose handle h is now.
func (s slots) find(h int64) answer {
	for i := range s.age {
		if h >= 0 && s.handle(i) == h {
			return answer{int64(i), true}
		}
	}
	return none
}

// model is tables of one memory as they should stand.
type model struct {
	mem    *word.Mem
	tables []slots
}

// newModel makes tables of the sizes, of generations of 0, with words that belong to nobody around
// them. Table by table there are gap words between.
func newModel(gap int, sizes ...int) *model {
	s := &model{}
	at := 1
	for _, n := range sizes {
		s.tables = append(s.tables, slots{at: at, age: make([]int64, n)})
		at += n + gap
	}
	s.mem = filled(strange(at + 1)...)
	for _, e := range s.tables {
		for i := range e.age {
			s.mem.Store(e.at+i, 0)
		}
	}
	return s
}

// clone answers a model of its own that stands as s does.
func (s *model) clone() *model {
	c := &model{mem: filled(s.mem.Words()...), tables: slices.Clone(s.tables)}
	for k := range c.tables {
		c.tables[k].age = slices.Clone(c.tables[k].age)
	}
	return c
}

// handle fails the test, unless Handle answers what it should, and answers that.
func (s *model) handle(t *testing.T, k, i int) answer {
	t.Helper()
	e := s.tables[k]
	want := none
	if i >= 0 && i < len(e.age) {
		want = answer{e.handle(i), true}
	}
	if got := handle(t, s.mem, e.at, len(e.age), i); got != want {
		t.Errorf("Handle of %d: %v, want %v", i, got, want)
	}
	return want
}

// find fails the test, unless Check answers what it should, and answers that.
func (s *model) find(t *testing.T, k int, h int64) answer {
	t.Helper()
	e := s.tables[k]
	want := e.find(h)
	if got := check(t, s.mem, e.at, len(e.age), h); got != want {
		t.Errorf("Check of %d: %v, want %v", h, got, want)
	}
	return want
}

// next fails the test, unless Next answers what it should.
func (s *model) next(t *testing.T, k, i int) {
	t.Helper()
	e := s.tables[k]
	want := i >= 0 && i < len(e.age)
	if want {
		e.age[i]++
	}
	if got := next(t, s.mem, e.at, len(e.age), i); got != want {
		t.Errorf("Next of %d: %t, want %t", i, got, want)
	}
}

// askAll asks for the handle of each slot, and of those that the table lacks on both sides; and
// whether those count, the two that are older, the two that are yet to come, and their neighbours.
func (s *model) askAll(t *testing.T, k int) {
	t.Helper()
	for i := -1; i <= len(s.tables[k].age); i++ {
		h := s.handle(t, k, i).v
		for _, d := range []int64{0, -512, -256, 256, 512, -1, 1} {
			s.find(t, k, h+d)
		}
	}
}

// stands fails the test, unless every word is as the model says.
func (s *model) stands(t *testing.T, how ...any) {
	t.Helper()
	want := strange(s.mem.Len())
	for _, e := range s.tables {
		copy(want[e.at:], e.age)
	}
	holds(t, s.mem, want)
	if t.Failed() {
		t.Fatal(how...)
	}
}

// P10.1, the example: Handle 2: 2; Next 2; Check 2: false; Check 258: 2.
func TestExample(t *testing.T) {
	m := word.New(4)
	if a := handle(t, m, 0, 4, 2); a != (answer{2, true}) {
		t.Error(a)
	}
	holds(t, m, []int64{0, 0, 0, 0})
	if !next(t, m, 0, 4, 2) {
		t.Error("Next 2: false")
	}
	holds(t, m, []int64{0, 0, 1, 0})
	if a := check(t, m, 0, 4, 2); a != none {
		t.Error(a)
	}
	if a := check(t, m, 0, 4, 258); a != (answer{2, true}) {
		t.Error(a)
	}
	if a := handle(t, m, 0, 4, 2); a != (answer{258, true}) {
		t.Error(a)
	}
	holds(t, m, []int64{0, 0, 1, 0})
}

// P10.1: a table of 1 slot, word by word: the handle that counts, the old ones, and those that are
// yet to come.
func TestOneSlot(t *testing.T) {
	m := filled(-5, 0, -6)
	for age := range int64(5) {
		holds(t, m, []int64{-5, age, -6})
		if a := handle(t, m, 1, 1, 0); a != (answer{256 * age, true}) {
			t.Errorf("generation %d: %v", age, a)
		}
		for other := range int64(8) {
			want := answer{0, other == age}
			if a := check(t, m, 1, 1, 256*other); a != want {
				t.Errorf("generation %d, Check of %d: %v", age, 256*other, a)
			}
			if a := check(t, m, 1, 1, 256*other+1); a != none {
				t.Errorf("generation %d, Check of %d: %v", age, 256*other+1, a)
			}
		}
		holds(t, m, []int64{-5, age, -6})
		if next(t, m, 1, 1, 1) || next(t, m, 1, 1, -1) || !next(t, m, 1, 1, 0) {
			t.Error("Next of a slot that is none, or not of the one that is")
		}
	}
	holds(t, m, []int64{-5, 5, -6})
}

// P10.1: a table of words of 0: each slot's handle is its number, in tables of each size up to
// MaxObjects, and a Handle and a Check change nothing.
func TestFirstHandles(t *testing.T) {
	for n := 1; n <= api.MaxObjects; n++ {
		s := newModel(1, n)
		for i := range n {
			if a := s.handle(t, 0, i); a != (answer{int64(i), true}) {
				t.Errorf("%d slots: the handle of %d is %v", n, i, a)
			}
			if a := s.find(t, 0, int64(i)); a != (answer{int64(i), true}) {
				t.Errorf("%d slots: Check of %d: %v", n, i, a)
			}
		}
		s.askAll(t, 0)
		s.stands(t, n)
	}
}

// orders answers some orders of the numbers up to n.
func orders(n int) [][]int {
	var up, down, far, twice []int
	for i := range n {
		up = append(up, i)
		down = append(down, n-1-i)
		twice = append(twice, i, i)
		if i%2 == 0 {
			far = append(far, i/2)
		} else {
			far = append(far, n-1-i/2)
		}
	}
	return [][]int{up, down, far, twice, {0, 0, 0}, {n - 1, n - 1, n - 1}, {0, n - 1, 0}}
}

// P10.1: tables of each size, whose handles are asked for, checked and made old in several orders:
// each handle counts till its slot's Next, and never again.
func TestHandlesGrowOld(t *testing.T) {
	for n := 1; n <= api.MaxObjects; n++ {
		for _, order := range orders(n) {
			s := newModel(1, n)
			var old []int64
			for _, i := range append(order, order...) {
				h := s.handle(t, 0, i).v
				if a := s.find(t, 0, h); a != (answer{int64(i), true}) {
					t.Errorf("%d slots, %v: %d doesn't count: %v", n, order, h, a)
				}
				s.next(t, 0, i)
				s.stands(t, n, order, i)
				old = append(old, h)
				for _, h := range old {
					if a := s.find(t, 0, h); a != none {
						t.Errorf("%d slots, %v: the old %d: %v", n, order, h, a)
					}
				}
				s.askAll(t, 0)
				s.stands(t, n, order, i)
			}
		}
	}
}

// P10.1: a Next of one slot leaves the handles of the others, whatever generations they have.
func TestNextLeavesTheOthers(t *testing.T) {
	for n := 2; n <= api.MaxObjects; n++ {
		for i := range n {
			s := newModel(0, n)
			for k := range n {
				for range k % 3 {
					s.next(t, 0, k)
				}
			}
			var before []int64
			for k := range n {
				before = append(before, s.handle(t, 0, k).v)
			}
			s.next(t, 0, i)
			for k, h := range before {
				want := answer{int64(k), true}
				if k == i {
					want = none
				}
				if a := check(t, s.mem, 1, n, h); a != want {
					t.Errorf("Next of %d of %d, Check of %d: %v", i, n, h, a)
				}
			}
			s.stands(t, n, i)
		}
	}
}

// P10.1: every handle of the first few generations, and all numbers between: Check tells just
// those that Handle answers.
func TestCheckOfEveryNumber(t *testing.T) {
	for n := 1; n <= api.MaxObjects; n++ {
		s := newModel(1, n)
		for i := range n {
			for range (i * 3) % 4 {
				s.next(t, 0, i)
			}
		}
		found := 0
		for h := int64(-600); h < 6*256; h++ {
			if s.find(t, 0, h).ok {
				found++
			}
		}
		if found != n {
			t.Errorf("%d slots, %d handles", n, found)
		}
		s.stands(t, n)
	}
}

// follow does every order of Nexts, so many of them, with all other calls between.
func follow(t *testing.T, s *model, left int, how []string) {
	s.askAll(t, 0)
	s.stands(t, how)
	if left == 0 {
		return
	}
	for i := -1; i <= len(s.tables[0].age); i++ {
		behind := s.clone()
		how := append(slices.Clone(how), fmt.Sprint("Next ", i))
		behind.next(t, 0, i)
		behind.stands(t, how)
		follow(t, behind, left-1, how)
	}
}

// P10.1: every order of few calls, of small tables.
func TestEveryOrderOfCalls(t *testing.T) {
	for n, calls := range map[int]int{1: 5, 2: 4, 3: 4, 4: 3} {
		follow(t, newModel(1, n), calls, []string{fmt.Sprint(n, " slots")})
	}
}

// P10.1: several tables in one memory, by a rule: each is as if it were alone.
func TestManyCalls(t *testing.T) {
	for seed := range 8 {
		s := newModel(seed%2, 3, 1, 8, 2, 5)
		state := uint32(seed)*2654435761 + 1
		draw := func(n int) int {
			state = state*1664525 + 1013904223
			return int(state>>16) % n
		}
		for step := range 1500 {
			k := draw(len(s.tables))
			i := draw(len(s.tables[k].age)+2) - 1
			switch draw(3) {
			case 0:
				s.handle(t, k, i)
			case 1:
				s.find(t, k, int64(i)+256*int64(draw(step/30+2)))
			default:
				s.next(t, k, i)
			}
			s.stands(t, seed, step)
		}
		for k := range s.tables {
			s.askAll(t, k)
		}
	}
}

// P10.1: two tables in one memory, right behind each other: a call of one changes nothing of the
// other, and each has handles of its own.
func TestTwoTables(t *testing.T) {
	for one := 1; one <= 4; one++ {
		for two := 1; two <= 4; two++ {
			s := newModel(0, one, two)
			for range 2 {
				s.next(t, 0, one-1)
				s.stands(t, one, two)
				s.askAll(t, 1)
			}
			s.next(t, 1, 0)
			s.next(t, 1, two-1)
			s.next(t, 1, two)
			s.next(t, 0, one)
			s.next(t, 1, -1)
			s.stands(t, one, two)
			s.askAll(t, 0)
			s.askAll(t, 1)
			s.stands(t, one, two)
		}
	}
}

// P10.1: the same words as tables of fewer slots: a slot that such a one lacks has no handle, even
// if there is a word.
func TestFewerSlots(t *testing.T) {
	ages := []int64{-9, 0, 1, 2, 3, 0, 1, 2, 3, -9}
	m := filled(ages...)
	for n := 1; n <= api.MaxObjects; n++ {
		for i := range api.MaxObjects {
			h := slots{age: ages[1:9]}.handle(i)
			wantHandle, wantSlot := answer{h, true}, answer{int64(i), true}
			if i >= n {
				wantHandle, wantSlot = none, none
			}
			if a := handle(t, m, 1, n, i); a != wantHandle {
				t.Errorf("%d slots: the handle of %d is %v", n, i, a)
			}
			if a := check(t, m, 1, n, h); a != wantSlot {
				t.Errorf("%d slots: Check of %d: %v", n, h, a)
			}
			if i >= n && next(t, m, 1, n, i) {
				t.Errorf("%d slots: Next of %d: true", n, i)
			}
		}
		holds(t, m, ages)
	}
}

// P10.1: the places of a memory at which a table may lie: its first words, and its last ones.
func TestEveryAddress(t *testing.T) {
	const size = 10
	for _, n := range []int{1, 3, 8} {
		for at := range size - n + 1 {
			words := strange(size)
			for i := range n {
				words[at+i] = int64(i)
			}
			m := filled(words...)
			for i := range n {
				if a := handle(t, m, at, n, i); a != (answer{int64(257 * i), true}) {
					t.Errorf("at %d, %d slots: the handle of %d is %v", at, n, i, a)
				}
				if a := check(t, m, at, n, int64(257*i)); a != (answer{int64(i), true}) {
					t.Errorf("at %d, %d slots: Check of %d: %v", at, n, 257*i, a)
				}
				if !next(t, m, at, n, i) {
					t.Errorf("at %d, %d slots: Next of %d: false", at, n, i)
				}
				words[at+i]++
				holds(t, m, words)
			}
		}
	}
}

// P10.1: a table at the upper end of the greatest memory.
func TestGreatestMemory(t *testing.T) {
	const n = api.MaxObjects
	const at = api.MaxWords - n
	m := word.New(api.MaxWords)
	words := m.Words()
	for i := range n {
		if !next(t, m, at, n, i) {
			t.Errorf("Next of %d: false", i)
		}
		words[at+i] = 1
		if a := handle(t, m, at, n, i); a != (answer{int64(i) + 256, true}) {
			t.Errorf("the handle of %d is %v", i, a)
		}
		if a := check(t, m, at, n, int64(i)+256); a != (answer{int64(i), true}) {
			t.Errorf("Check of %d: %v", i+256, a)
		}
	}
	holds(t, m, words)
}

// R2, R3: what a call answers depends on its arguments and its frame's accesses alone: not on
// tables of other memories, nor on what was called ahead of it.
func TestSameHistorySameAnswers(t *testing.T) {
	other := newModel(1, 2)
	run := func() ([]int64, []answer) {
		s := newModel(1, 5)
		var seen []answer
		for i := range 12 {
			seen = append(seen, s.handle(t, 0, i%5), s.find(t, 0, int64(i%5+256)))
			other.next(t, 0, i%2)
			other.find(t, 0, int64(i%5))
			s.next(t, 0, i%4)
		}
		return s.mem.Words(), seen
	}
	words, seen := run()
	again, seenAgain := run()
	if !slices.Equal(words, again) || !slices.Equal(seen, seenAgain) {
		t.Errorf("%v, then %v", seen, seenAgain)
	}
}

// great are generations that few calls leave, and such as only a Next that goes round does; with
// what a slot's handle is less its number.
var great = []struct{ age, handle int64 }{
	{1, 256},
	{255, 65280},
	{256, 65536},
	{257, 65792},
	{1<<23 - 1, 1<<31 - 256},
	{1 << 23, 1 << 31},
	{1 << 24, 1 << 32},
	{1<<31 - 1, 1<<39 - 256},
	{1 << 32, 1 << 40},
	{1<<55 - 1, math.MaxInt64 - 255},
	{1 << 55, math.MinInt64},
	{1<<55 + 1, math.MinInt64 + 256},
	{1<<56 - 1, -256},
	{1 << 56, 0},
	{1<<56 + 3, 768},
	{math.MaxInt64, -256},
	{math.MinInt64, 0},
	{math.MinInt64 + 1, 256},
	{-1, -256},
	{-2, -512},
	{-1 << 55, math.MinInt64},
	{-1<<55 - 1, math.MaxInt64 - 255},
	{-1 << 56, 0},
}

// P10.1 with DOC.md's Words: generations that are great, or below 0: a handle's arithmetic goes
// round, so that it may be below 0; such a one counts for no Check.
func TestGreatGenerations(t *testing.T) {
	for n := 1; n <= api.MaxObjects; n++ {
		for _, g := range great {
			for i := range n {
				words := strange(n + 2)
				words[1+i] = g.age
				m := filled(words...)
				h := g.handle + int64(i)
				if a := handle(t, m, 1, n, i); a != (answer{h, true}) {
					t.Errorf("generation %d of %d: the handle is %v, want %d", g.age, i, a, h)
				}
				want := none
				if h >= 0 {
					want = answer{int64(i), true}
				}
				if a := check(t, m, 1, n, h); a != want {
					t.Errorf("generation %d of %d: Check of %d: %v", g.age, i, h, a)
				}
				for _, d := range []int64{-256, 256, 1 << 32, -1 << 32, math.MinInt64} {
					if a := check(t, m, 1, n, h+d); a != none {
						t.Errorf("generation %d of %d: Check of %d: %v", g.age, i, h+d, a)
					}
				}
				holds(t, m, words)
			}
		}
	}
}

// P10.1 with DOC.md's Words: a Next of a great generation: one more, which goes round.
func TestNextGoesRound(t *testing.T) {
	for _, g := range great {
		for i := range 3 {
			words := []int64{7, 0, 0, 0, 7}
			words[1+i] = g.age
			m := filled(words...)
			for range 3 {
				if !next(t, m, 1, 3, i) {
					t.Errorf("generation %d of %d: Next: false", g.age, i)
				}
				words[1+i]++
				holds(t, m, words)
			}
		}
	}
	m := filled(math.MaxInt64)
	next(t, m, 0, 1, 0)
	holds(t, m, []int64{math.MinInt64})
}
