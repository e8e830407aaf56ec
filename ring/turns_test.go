package ring_test

import (
	"slices"
	"testing"

	"septum/frame"
	"septum/ring"
	"septum/word"
)

// putter makes a body that tries to put so many times, from the word v on, the next one as soon
// as one was put, and tells what each Put answered.
func putter(at, c, tries int, v int64, told *[]bool) frame.Body {
	return func(f *frame.Frame) {
		*told = nil
		next := v
		for range tries {
			ok := ring.Put(f, at, c, next)
			if ok {
				next++
			}
			*told = append(*told, ok)
		}
	}
}

// getter makes a body that tries to get so many times, and tells what each Get answered.
func getter(at, c, tries int, told *[]answer) frame.Body {
	return func(f *frame.Frame) {
		*told = nil
		for range tries {
			v, ok := ring.Get(f, at, c)
			*told = append(*told, answer{v, ok})
		}
	}
}

// scene is a ring at 1 that begins at a count, and holds the words from 1 on, so many of them;
// how often one tries to put, and one to get, at the same time; and what they are answered.
type scene struct {
	c, ahead   int
	begin      int64
	tries      int
	attempts   int
	mem        *word.Mem
	puts, gets frame.Body
	one, two   *frame.Frame
	put        []bool
	got        []answer
}

// start lays the scene anew.
func (s *scene) start() {
	words := strange(s.c + 4)
	words[1], words[2] = s.begin, s.begin+int64(s.ahead)
	for i := range s.ahead {
		words[3+place(s.c, s.begin+int64(i))] = int64(1 + i)
	}
	s.mem = filled(words...)
	s.puts = putter(1, s.c, s.tries, int64(1+s.ahead), &s.put)
	s.gets = getter(1, s.c, s.attempts, &s.got)
	s.one, s.two = frame.New(s.mem), frame.New(s.mem)
	s.put, s.got = nil, nil
}

// step takes one step: of the one that puts (0), or of the one that gets.
func (s *scene) step(now, who int) {
	if who == 0 {
		s.one.Step(now, s.puts)
	} else {
		s.two.Step(now, s.gets)
	}
}

// done tells whether that one is done.
func (s *scene) done(who int) bool {
	if who == 0 {
		return s.one.Done()
	}
	return s.two.Done()
}

// everyOrder calls each behind every order of the steps, till both are done, that begins so, and
// answers how many there are.
func (s *scene) everyOrder(begun []int, each func(order []int)) int {
	s.start()
	for now, who := range begun {
		s.step(now, who)
	}
	var open []int
	for who := range 2 {
		if !s.done(who) {
			open = append(open, who)
		}
	}
	if len(open) == 0 {
		each(begun)
		return 1
	}
	count := 0
	for _, who := range open {
		count += s.everyOrder(append(slices.Clone(begun), who), each)
	}
	return count
}

// words answers the words that were put, and those that were got.
func (s *scene) words() (given, got []int64) {
	for i := range s.ahead {
		given = append(given, int64(1+i))
	}
	for _, ok := range s.put {
		if ok {
			given = append(given, int64(1+len(given)))
		}
	}
	for _, a := range s.got {
		if a.ok {
			got = append(got, a.v)
		}
	}
	return given, got
}

// inOrder fails the test, unless what was got is what was put, in order, and the rest of it stands
// in the ring.
func (s *scene) inOrder(t *testing.T, order []int) {
	t.Helper()
	given, got := s.words()
	for {
		a, _ := get(t, s.mem, 1, s.c)
		if !a.ok {
			break
		}
		got = append(got, a.v)
	}
	if !slices.Equal(given, got) {
		t.Fatalf("size %d from %d, %d ahead, order %v: put %v, got %v", s.c, s.begin, s.ahead, order, given, got)
	}
}

// hand does what the one that puts and the one that gets do in that order, by hand.
type hand struct {
	c     int
	words []int64
	put   []bool
	got   []answer
}

// work is where one of the two stands within its call: how many of its accesses are done, and
// what it has loaded.
type work struct {
	at         int
	taken, put int64
	v          int64
}

// step does the next access of a Put (0) or a Get (1) of a ring at 1.
func (h *hand) step(w *work, who int, next int64) {
	switch {
	case w.at == 0:
		w.taken = h.words[1]
	case w.at == 1:
		w.put = h.words[2]
		if who == 0 && w.put-w.taken == int64(h.c) {
			h.put = append(h.put, false)
			w.at = -1
		}
		if who == 1 && w.put == w.taken {
			h.got = append(h.got, none)
			w.at = -1
		}
	case w.at == 2 && who == 0:
		h.words[3+place(h.c, w.put)] = next
	case w.at == 2:
		w.v = h.words[3+place(h.c, w.taken)]
	case who == 0:
		h.words[2] = w.put + 1
		h.put = append(h.put, true)
		w.at = -1
	default:
		h.words[1] = w.taken + 1
		h.got = append(h.got, answer{w.v, true})
		w.at = -1
	}
	w.at++
}

// byHand fails the test, unless the calls have answered, and left in the memory, what they do by
// hand in that order.
func (s *scene) byHand(t *testing.T, order []int) {
	t.Helper()
	s2 := *s
	s2.start()
	h := hand{c: s.c, words: s2.mem.Words()}
	var works [2]work
	for _, who := range order {
		next := int64(1 + s.ahead)
		for _, ok := range h.put {
			if ok {
				next++
			}
		}
		h.step(&works[who], who, next)
	}
	if !slices.Equal(s.put, h.put) || !slices.Equal(s.got, h.got) || !slices.Equal(s.mem.Words(), h.words) {
		t.Fatalf("size %d from %d, %d ahead, order %v: %v, %v, %v, want %v, %v, %v", s.c, s.begin, s.ahead, order,
			s.put, s.got, s.mem.Words(), h.put, h.got, h.words)
	}
}

// P8.2: one that puts, and one that gets, whose steps are taken in turns, in every order: what is
// got is what was put, in order, nothing is lost, nothing comes twice; and each call does just
// its accesses.
func TestEveryOrderOfSteps(t *testing.T) {
	for _, c := range []int{1, 2, 3} {
		for _, begin := range []int64{0, greatest - 1, -1} {
			for ahead := range c + 1 {
				s := &scene{c: c, begin: begin, ahead: ahead, tries: 2, attempts: 2}
				orders := s.everyOrder(nil, func(order []int) {
					s.byHand(t, order)
					s.inOrder(t, order)
				})
				// With two calls of two to four accesses each there are 70 orders at least.
				if orders < 70 {
					t.Errorf("only %d orders", orders)
				}
			}
		}
	}
}

// P8.2: every order of more calls, of the smallest rings: the one that puts goes round.
func TestEveryOrderOfMoreSteps(t *testing.T) {
	for _, s := range []*scene{
		{c: 1, tries: 3, attempts: 2},
		{c: 2, ahead: 1, begin: greatest, tries: 2, attempts: 3},
	} {
		s.everyOrder(nil, func(order []int) { s.inOrder(t, order) })
	}
}

// P8.2: many words through rings of several sizes, with steps in turns by a rule: now the one that
// puts is faster, now the one that gets.
func TestManyWordsInTurns(t *testing.T) {
	for seed := range 24 {
		s := &scene{c: []int{1, 2, 3, 5, 15, 16}[seed%6], begin: begins[seed%len(begins)], tries: 60, attempts: 60}
		s.start()
		state := uint32(seed)*2654435761 + 1
		var order []int
		for now := 0; now < 2000 && (!s.one.Done() || !s.two.Done()); now++ {
			state = state*1664525 + 1013904223
			who := 0
			if state>>16%8 < uint32(1+now/40%7) {
				who = 1
			}
			if s.done(who) {
				who = 1 - who
			}
			s.step(now, who)
			order = append(order, who)
		}
		if !s.one.Done() || !s.two.Done() {
			t.Fatal("not done")
		}
		s.byHand(t, order)
		s.inOrder(t, order)
		if given, got := s.words(); len(given) < 10 || len(got) < 10 {
			t.Errorf("seed %d: only %d put, %d got", seed, len(given), len(got))
		}
	}
}

// P8.2: the one that gets clears the ring as well: what it gets is still in order, and nothing
// comes twice; what it doesn't get was cleared.
func TestClearInTurns(t *testing.T) {
	for seed := range 200 {
		c := 1 + seed%4
		m := word.New(c + 2)
		var told []bool
		var got []int64
		gets := func(f *frame.Frame) {
			got = nil
			for i := range 20 {
				if i%7 == 6 {
					ring.Clear(f, 0)
				}
				if v, ok := ring.Get(f, 0, c); ok {
					got = append(got, v)
				}
			}
		}
		puts := putter(0, c, 30, 1, &told)
		one, two := frame.New(m), frame.New(m)
		state := uint32(seed)*2654435761 + 1
		for now := 0; now < 2000 && (!one.Done() || !two.Done()); now++ {
			state = state*1664525 + 1013904223
			if state>>16&1 == 0 {
				one.Step(now, puts)
			} else {
				two.Step(now, gets)
			}
		}
		if !one.Done() || !two.Done() {
			t.Fatal("not done")
		}
		for i, v := range got {
			if v < 1 || i > 0 && v <= got[i-1] {
				t.Fatalf("seed %d, size %d: got %v", seed, c, got)
			}
		}
	}
}

// P8.1 with P2.3: a third one that only looks, at the same time, sees no less than none, and
// changes nothing.
func TestLenInTurns(t *testing.T) {
	for seed := range 50 {
		s := &scene{c: 1 + seed%3, begin: begins[seed%len(begins)], tries: 12, attempts: 12}
		s.start()
		var seen []int
		looks := func(f *frame.Frame) {
			seen = nil
			for range 20 {
				seen = append(seen, ring.Len(f, 1))
			}
		}
		three := frame.New(s.mem)
		state := uint32(seed)*2654435761 + 1
		var order []int
		for now := 0; now < 3000 && (!s.one.Done() || !s.two.Done() || !three.Done()); now++ {
			state = state*1664525 + 1013904223
			who := int(state>>16) % 3
			switch {
			case who == 2:
				three.Step(now, looks)
			case !s.done(who):
				s.step(now, who)
				order = append(order, who)
			}
		}
		if !s.one.Done() || !s.two.Done() || !three.Done() {
			t.Fatal("not done")
		}
		for _, n := range seen {
			if n < 0 {
				t.Fatalf("seed %d: %v", seed, seen)
			}
		}
		s.byHand(t, order)
		s.inOrder(t, order)
	}
}
