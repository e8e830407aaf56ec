package ticket_test

import (
	"math"
	"slices"
	"testing"

	"septum/frame"
	"septum/ticket"
	"septum/word"
)

// filled makes a memory that holds the given words.
func filled(words ...int64) *word.Mem {
	m := word.New(len(words))
	for a, v := range words {
		m.Store(a, v)
	}
	return m
}

// holds fails the test, unless m holds just the given words.
func holds(t *testing.T, m *word.Mem, want ...int64) {
	t.Helper()
	if got := m.Words(); !slices.Equal(got, want) {
		t.Errorf("words: %v, want %v", got, want)
	}
}

// steps plays a body that waits for nobody to its end, and answers how many accesses it did.
func steps(t *testing.T, m *word.Mem, body frame.Body) int {
	t.Helper()
	f := frame.New(m)
	for now := range 20 {
		if f.Step(now, body) {
			return f.Steps()
		}
	}
	t.Fatal("the body is not done")
	return 0
}

// spend does the step's one access at a word of no meaning, in a step that is the frame's
// first: the next access is asked of a frame that goes off with it.
func spend(f *frame.Frame) { f.Load(math.MinInt) }

// P3.1: a lock lies in two words.
func TestWords(t *testing.T) {
	if ticket.Words != 2 {
		t.Error(ticket.Words)
	}
}

// P3.1: Draw is one access, an add of 1 to the first word, and answers what it was, at
// whatever place, and over the end of the words, too.
func TestDraw(t *testing.T) {
	for _, c := range []struct{ next, then int64 }{
		{0, 1}, {1, 2}, {41, 42}, {-1, 0}, {-9, -8},
		{math.MaxInt64, math.MinInt64}, {math.MinInt64, math.MinInt64 + 1},
	} {
		for at := range 3 {
			words := []int64{7, 7, 7, 7}
			words[at] = c.next
			m := filled(words...)
			var got int64
			n := steps(t, m, func(f *frame.Frame) { got = ticket.Draw(f, at) })
			if got != c.next || n != 1 {
				t.Errorf("Draw of %d at %d: %d with %d accesses", c.next, at, got, n)
			}
			words[at] = c.then
			holds(t, m, words...)
		}
	}
}

// P3.1: tickets are drawn one behind the other, from 0 on in a new lock; a second lock has
// tickets of its own.
func TestDrawInOrder(t *testing.T) {
	m := word.New(2 * ticket.Words)
	var got []int64
	n := steps(t, m, func(f *frame.Frame) {
		got = []int64{
			ticket.Draw(f, 0), ticket.Draw(f, 0), ticket.Draw(f, ticket.Words), ticket.Draw(f, 0),
		}
	})
	if !slices.Equal(got, []int64{0, 1, 0, 2}) || n != 4 {
		t.Error(got, n)
	}
	holds(t, m, 3, 0, 1, 0)
}

// P3.1: Served is one access, a load of the second word: whether it is the ticket.
func TestServed(t *testing.T) {
	for _, c := range []struct{ served, ticket int64 }{
		{0, 0}, {0, 1}, {1, 0}, {5, 5}, {5, 4}, {5, 6}, {-2, -2}, {-2, 2},
		{math.MaxInt64, math.MaxInt64}, {math.MinInt64, math.MaxInt64}, {math.MinInt64, math.MinInt64},
		{1 << 32, 0}, {1<<32 + 3, 3},
	} {
		for at := range 2 {
			words := []int64{99, 99, 99}
			words[at+1] = c.served
			m := filled(words...)
			var got bool
			n := steps(t, m, func(f *frame.Frame) { got = ticket.Served(f, at, c.ticket) })
			if got != (c.served == c.ticket) || n != 1 {
				t.Errorf("Served of %d at %d, while it is %d: %t with %d accesses", c.ticket, at, c.served, got, n)
			}
			holds(t, m, words...)
		}
	}
}

// P3.1: Served doesn't ask for the first word.
func TestServedLooksAtTheSecondWord(t *testing.T) {
	m := filled(4, 3)
	var four, three bool
	steps(t, m, func(f *frame.Frame) {
		four, three = ticket.Served(f, 0, 4), ticket.Served(f, 0, 3)
	})
	if four || !three {
		t.Error(four, three)
	}
}

// P3.1: Leave is one access: a store of the ticket and 1 into the second word, whatever it
// was; the ticket isn't asked for.
func TestLeave(t *testing.T) {
	for _, c := range []struct{ was, ticket, then int64 }{
		{0, 0, 1}, {3, 3, 4}, {0, 8, 9}, {8, 0, 1}, {5, -1, 0},
		{math.MaxInt64, math.MaxInt64, math.MinInt64}, {0, math.MinInt64, math.MinInt64 + 1},
	} {
		for at := range 2 {
			words := []int64{99, 99, 99}
			words[at+1] = c.was
			m := filled(words...)
			n := steps(t, m, func(f *frame.Frame) { ticket.Leave(f, at, c.ticket) })
			if n != 1 {
				t.Errorf("Leave: %d accesses", n)
			}
			words[at+1] = c.then
			holds(t, m, words...)
		}
	}
}

// P3.1, the example: Enter is two accesses, where nobody has the lock, whatever ticket is
// next; the second is a load.
func TestEnterFree(t *testing.T) {
	for _, k := range []int64{0, 1, 17, -5, math.MaxInt64, math.MinInt64} {
		m := filled(9, k, k)
		var got int64
		n := steps(t, m, func(f *frame.Frame) { got = ticket.Enter(f, 1) })
		if got != k || n != 2 {
			t.Errorf("Enter of a free lock at ticket %d: %d with %d accesses", k, got, n)
		}
		holds(t, m, 9, k+1, k)
	}
}

// P3.1: one body that Enters, does accesses, and Leaves: the words behind each step.
func TestOneBody(t *testing.T) {
	m := filled(6, 6, 40)
	body := func(f *frame.Frame) {
		k := ticket.Enter(f, 0)
		f.Store(2, f.Load(2)+1)
		ticket.Leave(f, 0, k)
	}
	f := frame.New(m)
	after := [][]int64{{7, 6, 40}, {7, 6, 40}, {7, 6, 40}, {7, 6, 41}, {7, 7, 41}}
	for now, want := range after {
		if done := f.Step(now, body); done != (now == len(after)-1) {
			t.Errorf("step %d: %t", now, done)
		}
		holds(t, m, want...)
	}
}

// P3.1: Enter waits by one load of the second word a step, as long as it is another ticket:
// one ahead of its own, one behind it, the next one of all. It answers its ticket in each
// step behind the Draw, and draws it once.
func TestEnterWaits(t *testing.T) {
	for _, other := range []int64{0, 2, 4, 5, 1 << 32, -3, math.MinInt64} {
		m := filled(3, other)
		var got int64
		body := func(f *frame.Frame) { got = ticket.Enter(f, 0) }
		f := frame.New(m)
		for now := range 30 {
			if f.Step(now, body) {
				t.Fatalf("entered with 3 while %d is served", other)
			}
			if got != 3 || f.Steps() != now+1 {
				t.Fatalf("step %d: ticket %d, %d accesses", now, got, f.Steps())
			}
			holds(t, m, 4, other)
		}
		m.Store(1, 3)
		if !f.Step(30, body) || got != 3 || f.Steps() != 31 {
			t.Errorf("waits while served: ticket %d, %d accesses", got, f.Steps())
		}
		holds(t, m, 4, 3)
	}
}

// P3.1: a ticket that was served ahead of the load alone is not had: what counts is what the
// load answers.
func TestEnterMissesWhatItDidNotLoad(t *testing.T) {
	m := filled(1, 0)
	body := func(f *frame.Frame) { ticket.Enter(f, 0) }
	f := frame.New(m)
	f.Step(0, body)
	f.Step(1, body)
	m.Store(1, 1)
	m.Store(1, 0)
	if f.Step(2, body) {
		t.Error("entered by a ticket that was served between two steps")
	}
	m.Store(1, 1)
	if !f.Step(3, body) {
		t.Error("waits")
	}
}

// P3.1: what the calls answer, and do, if the frame goes off with them: with words that
// would answer otherwise, were the access done.
func TestFrameGoesOff(t *testing.T) {
	m := filled(5, 5, 0)
	calls := []struct {
		name string
		call func(f *frame.Frame) (int64, bool)
	}{
		{"Draw", func(f *frame.Frame) (int64, bool) { return ticket.Draw(f, 0), false }},
		{"Served", func(f *frame.Frame) (int64, bool) { return 0, ticket.Served(f, 0, 5) }},
		{"Served of 0", func(f *frame.Frame) (int64, bool) { return 0, ticket.Served(f, 0, 0) }},
		{"Served of 0 while 0 is", func(f *frame.Frame) (int64, bool) { return 0, ticket.Served(f, 1, 0) }},
		{"Enter", func(f *frame.Frame) (int64, bool) { return ticket.Enter(f, 0), false }},
		{"Leave", func(f *frame.Frame) (int64, bool) { ticket.Leave(f, 0, 8); return 0, false }},
	}
	for _, c := range calls {
		f := frame.New(m)
		ran := false
		done := f.Step(0, func(f *frame.Frame) {
			spend(f)
			if f.Off() {
				t.Errorf("%s: off ahead of it", c.name)
			}
			// The first time the frame goes off with the call, the second time it is off.
			for range 2 {
				if k, yes := c.call(f); k != 0 || yes || !f.Off() {
					t.Errorf("%s: %d, %t, Off %t", c.name, k, yes, f.Off())
				}
			}
			ran = true
		})
		if done || !ran || f.Steps() != 1 {
			t.Errorf("%s: done %t, ran %t, %d accesses", c.name, done, ran, f.Steps())
		}
		holds(t, m, 5, 5, 0)
	}
}

// P3.1: a frame that goes off with Enter's first Served: the ticket is answered all the
// same, also where it is the one that a load of 0 would seem to be.
func TestEnterGoesOffBehindTheDraw(t *testing.T) {
	for _, k := range []int64{0, 4} {
		m := filled(k, k)
		f := frame.New(m)
		done := f.Step(0, func(f *frame.Frame) {
			if f.Off() {
				t.Error("off ahead of Enter")
			}
			if got := ticket.Enter(f, 0); got != k || !f.Off() {
				t.Errorf("Enter: %d, Off %t, want %d, true", got, f.Off(), k)
			}
		})
		if done || f.Steps() != 1 {
			t.Errorf("done %t, %d accesses", done, f.Steps())
		}
		holds(t, m, k+1, k)
	}
}

// P3.1, R1: a nil frame, and one out of a step, are off: nothing is done, and Enter ends.
func TestWithoutAStep(t *testing.T) {
	m := filled(5, 0)
	fresh := frame.New(m)
	over := frame.New(m)
	over.Step(0, func(f *frame.Frame) { f.Load(0) })
	for _, f := range []*frame.Frame{nil, fresh, over} {
		before := f.Steps()
		for _, at := range []int{0, -1, 2, math.MaxInt, math.MinInt} {
			if k := ticket.Draw(f, at); k != 0 {
				t.Errorf("Draw: %d", k)
			}
			for _, k := range []int64{0, 5, -1} {
				if ticket.Served(f, at, k) {
					t.Errorf("Served of %d", k)
				}
				ticket.Leave(f, at, k)
			}
			if k := ticket.Enter(f, at); k != 0 {
				t.Errorf("Enter: %d", k)
			}
		}
		if f.Steps() != before {
			t.Errorf("%d accesses", f.Steps()-before)
		}
		holds(t, m, 5, 0)
	}
}

// R1, P3.1 with P2.1: of an address that is none an access is answered 0, and counts: so a
// lock there seems to be free, and nothing is written.
func TestAddressThatIsNone(t *testing.T) {
	memories := []*word.Mem{filled(3, 3), word.New(0), nil}
	for _, m := range memories {
		for _, at := range []int{2, 4000, -2, -4000, math.MaxInt, math.MinInt} {
			var drawn, entered int64
			var zero, other bool
			n := steps(t, m, func(f *frame.Frame) {
				drawn = ticket.Draw(f, at)
				zero, other = ticket.Served(f, at, 0), ticket.Served(f, at, 3)
				entered = ticket.Enter(f, at)
				ticket.Leave(f, at, 0)
			})
			if drawn != 0 || !zero || other || entered != 0 || n != 6 {
				t.Errorf("at %d: %d, %t, %t, %d with %d accesses", at, drawn, zero, other, entered, n)
			}
		}
	}
	holds(t, memories[0], 3, 3)
}

// R1: a lock that is there by one of its words only: the other one is as an address that is
// none.
func TestHalfALock(t *testing.T) {
	m := filled(0, 7)
	var drawn int64
	var zero, seven bool
	n := steps(t, m, func(f *frame.Frame) {
		drawn = ticket.Draw(f, 1)
		zero, seven = ticket.Served(f, 1, 0), ticket.Served(f, 1, 7)
		ticket.Leave(f, 1, 7)
	})
	if drawn != 7 || !zero || seven || n != 4 {
		t.Error(drawn, zero, seven, n)
	}
	holds(t, m, 0, 8)

	n = steps(t, m, func(f *frame.Frame) {
		drawn = ticket.Draw(f, -1)
		zero, seven = ticket.Served(f, -1, 0), ticket.Served(f, -1, 7)
		ticket.Leave(f, -1, 7)
	})
	if drawn != 0 || !zero || seven || n != 4 {
		t.Error(drawn, zero, seven, n)
	}
	holds(t, m, 8, 8)
}

// R1: an Enter that is never served ends within each step.
func TestEnterNeverServed(t *testing.T) {
	m := filled(1, 0)
	if frame.Run(m, func(f *frame.Frame) { ticket.Enter(f, 0) }, 1000) {
		t.Error("entered")
	}
	holds(t, m, 2, 0)
}

// R2: what a call answers depends on its frame's accesses alone: a lock, and calls, beside
// it change nothing.
func TestSameHistorySameAnswers(t *testing.T) {
	play := func() []int64 {
		m := filled(2, 2, 0)
		var seen []int64
		steps(t, m, func(f *frame.Frame) {
			k := ticket.Enter(f, 0)
			ticket.Leave(f, 0, k)
			seen = []int64{k, ticket.Draw(f, 0), f.Load(1)}
		})
		return append(seen, m.Words()...)
	}
	first := play()
	other := word.New(2)
	steps(t, other, func(f *frame.Frame) { ticket.Enter(f, 0) })
	if second := play(); !slices.Equal(first, second) {
		t.Errorf("%v, then %v", first, second)
	}
}

// The words of the crowd's memory: the lock, how many bodies are between their Enter and
// their Leave, how many have been there, and the greatest number of them at once.
const (
	lockAt   = 0
	insideAt = ticket.Words
	comeAt   = insideAt + 1
	mostAt   = comeAt + 1
	crowdLen = mostAt + 1
)

// member is one body of a crowd, with its frame, and what it saw.
type member struct {
	frame  *frame.Frame
	ticket int64
	turn   int64 // how many had come ahead of it
}

// body Enters, tells by words that it is there, and Leaves.
func (c *member) body(f *frame.Frame) {
	k := ticket.Enter(f, lockAt)
	inside := f.Add(insideAt, 1) + 1
	turn := f.Load(comeAt)
	if inside > f.Load(mostAt) {
		f.Store(mostAt, inside)
	}
	f.Store(comeAt, turn+1)
	f.Add(insideAt, -1)
	ticket.Leave(f, lockAt, k)
	c.ticket, c.turn = k, turn
}

// crowd makes a memory whose lock begins at the ticket first, and so many members.
func crowd(size int, first int64) (*word.Mem, []*member) {
	m := word.New(crowdLen)
	m.Store(lockAt, first)
	m.Store(lockAt+1, first)
	members := make([]*member, size)
	for i := range members {
		members[i] = &member{frame: frame.New(m)}
	}
	return m, members
}

// settled fails the test, unless all members are done, came one at a time, and in the order
// of their tickets, which are all those from first on.
func settled(t *testing.T, m *word.Mem, members []*member, first int64) {
	t.Helper()
	size := int64(len(members))
	holds(t, m, first+size, first+size, 0, size, 1)
	seen := make([]bool, size)
	for i, c := range members {
		if !c.frame.Done() {
			t.Fatalf("member %d is not done", i)
		}
		if c.turn != c.ticket-first {
			t.Fatalf("member %d with ticket %d came as number %d", i, c.ticket-first, c.turn)
		}
		if seen[c.turn] {
			t.Fatalf("two members came as number %d", c.turn)
		}
		seen[c.turn] = true
	}
}

// P3.2: several frames whose steps are taken in turns, in several orders: the steps of an
// order by a rule, and then the members one behind the other, so that all of them end.
func TestCrowd(t *testing.T) {
	for _, first := range []int64{0, 9, math.MaxInt64 - 1, -2} {
		for size := 1; size <= 5; size++ {
			for seed := range 200 {
				m, members := crowd(size, first)
				state := uint32(seed)*2654435761 + 1
				for now := range 400 {
					state = state*1664525 + 1013904223
					who := int(state>>16) % size
					if now >= 250 {
						who = now % size
					}
					members[who].frame.Step(now, members[who].body)
				}
				settled(t, m, members, first)
			}
		}
	}
}

// P3.2: whoever draws first is first, whatever the order of the steps behind the draws, and
// though the others ask more often.
func TestOrderOfDraws(t *testing.T) {
	for _, order := range [][]int{{0, 1, 2}, {2, 1, 0}, {1, 2, 0}, {2, 0, 1}} {
		m, members := crowd(3, 0)
		now := 0
		for _, who := range order {
			members[who].frame.Step(now, members[who].body)
			now++
		}
		for range 200 {
			// The last one to draw has three steps for each one of the first.
			for _, who := range []int{order[2], order[2], order[1], order[2], order[1], order[0]} {
				members[who].frame.Step(now, members[who].body)
				now++
			}
		}
		settled(t, m, members, 0)
		for turn, who := range order {
			if members[who].turn != int64(turn) {
				t.Errorf("order %v: member %d came as number %d", order, who, members[who].turn)
			}
		}
	}
}

// P3.2: while its holder doesn't go on, nobody else enters; with its Leave the next one does,
// and the one behind that one still waits.
func TestHolderStops(t *testing.T) {
	m, members := crowd(3, 0)
	now := 0
	step := func(who int) bool {
		now++
		return members[who].frame.Step(now, members[who].body)
	}
	step(0)
	step(0)
	step(0)
	for range 50 {
		step(1)
		step(2)
	}
	holds(t, m, 3, 0, 1, 0, 0)
	for range 20 {
		step(0)
	}
	holds(t, m, 3, 1, 0, 1, 1)
	for range 50 {
		step(2)
	}
	holds(t, m, 3, 1, 0, 1, 1)
	for !step(1) {
		if now > 1000 {
			t.Fatal("the second waits")
		}
	}
	for !step(2) {
		if now > 1000 {
			t.Fatal("the third waits")
		}
	}
	settled(t, m, members, 0)
}

// follow plays two members through every order of their steps, to the depth given, and
// checks at each place that at most one of them is between its Enter and its Leave.
func follow(t *testing.T, order []int, depth int) {
	m, members := crowd(2, 0)
	for now, who := range order {
		members[who].frame.Step(now, members[who].body)
	}
	if l := m.Words(); l[insideAt] > 1 || l[mostAt] > 1 {
		t.Fatalf("order %v: %v", order, l)
	}
	if depth == 0 {
		for now := range 60 {
			who := now % 2
			members[who].frame.Step(len(order)+now, members[who].body)
		}
		settled(t, m, members, 0)
		return
	}
	for who := range members {
		follow(t, append(slices.Clone(order), who), depth-1)
	}
}

// P3.2: every order of the first 12 steps of two bodies.
func TestEveryOrder(t *testing.T) {
	follow(t, nil, 12)
}
