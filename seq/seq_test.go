package seq_test

import (
	"math"
	"slices"
	"testing"

	"septum/api"
	"septum/frame"
	"septum/seq"
	"septum/word"
)

// filled makes a memory that holds the given words.
func filled(words ...int64) *word.Mem {
	m := word.New(len(words))
	for a, v := range words {
		m.Store(a, v)
	}
	return m
}

// holds fails the test, unless m holds just the given words.
func holds(t *testing.T, m *word.Mem, want ...int64) {
	t.Helper()
	if got := m.Words(); !slices.Equal(got, want) {
		t.Errorf("words: %v, want %v", got, want)
	}
}

// steps plays a body that waits for nobody to its end, and answers how many accesses it did.
func steps(t *testing.T, m *word.Mem, body frame.Body) int {
	t.Helper()
	f := frame.New(m)
	for now := range 200 {
		if f.Step(now, body) {
			return f.Steps()
		}
	}
	t.Fatal("the body is not done")
	return 0
}

// rising answers n words, from the first one on, each 10 above the one ahead of it.
func rising(from int64, n int) []int64 {
	words := make([]int64, n)
	for i := range words {
		words[i] = from + 10*int64(i)
	}
	return words
}

// counts are numbers that a count may be at, even ones.
var counts = []int64{0, 2, 44, -2, -8, 1 << 40, math.MaxInt64 - 1, math.MinInt64}

// P4.1: how many words a value lies in.
func TestWords(t *testing.T) {
	for n := 1; n <= api.MaxSize; n++ {
		if got := seq.Words(n); got != n+1 {
			t.Errorf("Words(%d): %d", n, got)
		}
	}
	for _, n := range []int{0, -1, -16, api.MaxSize + 1, api.MaxSize + 2, 1 << 32, 1<<32 + 1, math.MaxInt, math.MinInt} {
		if got := seq.Words(n); got != 0 {
			t.Errorf("Words(%d): %d", n, got)
		}
	}
}

// P4.1, the example: a Write's accesses, by the words behind each step, of 1 to MaxSize
// words, at several places, and with counts that go round; a count that is odd is no other.
func TestWrite(t *testing.T) {
	for _, count := range append([]int64{1, -1, math.MaxInt64}, counts...) {
		for n := 1; n <= api.MaxSize; n++ {
			for at := range 3 {
				checkWrite(t, count, n, at)
			}
		}
	}
}

// checkWrite plays a Write of n words into a memory with words ahead of the value and behind.
func checkWrite(t *testing.T, count int64, n, at int) {
	t.Helper()
	want := rising(-5000, at+n+3)
	want[at] = count
	m := filled(want...)
	values := rising(700, n)
	f := frame.New(m)
	body := func(f *frame.Frame) { seq.Write(f, at, values) }
	for now := range n + 3 {
		switch {
		case now == 0: // a load
		case now == 1:
			want[at] = count + 1
		case now == n+2:
			want[at] = count + 2
		default:
			want[at+now-1] = values[now-2]
		}
		if done := f.Step(now, body); done != (now == n+2) || f.Steps() != now+1 {
			t.Fatalf("Write of %d words, step %d: done %t, %d accesses", n, now, done, f.Steps())
		}
		holds(t, m, want...)
	}
}

// P4.1: the count that a Write goes on from is the one that it loaded in its first step.
func TestWriteLoadsTheCountOnce(t *testing.T) {
	m := filled(6, 0)
	body := func(f *frame.Frame) { seq.Write(f, 0, []int64{9}) }
	f := frame.New(m)
	f.Step(0, body)
	m.Store(0, 100)
	f.Step(1, body)
	holds(t, m, 7, 0)
	m.Store(0, 200)
	f.Step(2, body)
	holds(t, m, 200, 9)
	if !f.Step(3, body) {
		t.Error("not done")
	}
	holds(t, m, 8, 9)
}

// P4.1: a Read of a value that nobody writes: n and 2 accesses, and the words, of 1 to
// MaxSize words, at several places and counts; nothing is written.
func TestReadAlone(t *testing.T) {
	for _, count := range counts {
		for n := 1; n <= api.MaxSize; n++ {
			for at := range 3 {
				words := rising(-5000, at+n+3)
				words[at] = count
				m := filled(words...)
				var got []int64
				did := steps(t, m, func(f *frame.Frame) { got = seq.Read(f, at, n) })
				if !slices.Equal(got, words[at+1:at+1+n]) || did != n+2 {
					t.Errorf("Read of %d words, count %d: %v with %d accesses", n, count, got, did)
				}
				holds(t, m, words...)
			}
		}
	}
}

// P4.1: a Write, and a Read behind it, in one body: one of other words than the last time.
func TestWriteThenRead(t *testing.T) {
	for n := 1; n <= api.MaxSize; n++ {
		m := word.New(seq.Words(n))
		for turn := range 3 {
			values := rising(int64(100*turn), n)
			values[n-1] = math.MinInt64 + int64(turn)
			var got []int64
			did := steps(t, m, func(f *frame.Frame) {
				seq.Write(f, 0, values)
				got = seq.Read(f, 0, n)
			})
			if !slices.Equal(got, values) || did != n+3+n+2 {
				t.Errorf("%d words: %v with %d accesses", n, got, did)
			}
			holds(t, m, append([]int64{2 * int64(turn+1)}, values...)...)
		}
	}
}

// P4.1: a Read of fewer words than there are, and of two values one behind the other.
func TestReadsOwnWordsOnly(t *testing.T) {
	m := filled(2, 10, 20, 30, 4, 50)
	var short, long, second []int64
	did := steps(t, m, func(f *frame.Frame) {
		short, long, second = seq.Read(f, 0, 2), seq.Read(f, 0, 3), seq.Read(f, 4, 1)
	})
	if !slices.Equal(short, []int64{10, 20}) || !slices.Equal(long, []int64{10, 20, 30}) ||
		!slices.Equal(second, []int64{50}) || did != 4+5+3 {
		t.Error(short, long, second, did)
	}
}

// P4.1: which word a Read loads in which step: all words but the count are others ahead of
// each step, so that what it answers tells when it was loaded.
func TestReadLoadsInOrder(t *testing.T) {
	const n = api.MaxSize
	m := word.New(seq.Words(n))
	var got []int64
	body := func(f *frame.Frame) { got = seq.Read(f, 0, n) }
	f := frame.New(m)
	for now := range n + 2 {
		for a := 1; a <= n; a++ {
			m.Store(a, int64(1000*now+a))
		}
		if done := f.Step(now, body); done != (now == n+1) {
			t.Fatalf("step %d: %t", now, done)
		}
	}
	for i, v := range got {
		if want := int64(1000*(i+1) + i + 1); v != want {
			t.Errorf("word %d: %d, want %d", i, v, want)
		}
	}
}

// P4.1: a Read that meets an odd count loads it again, one load a step, and answers none; with
// an even one it goes on.
func TestReadWaitsWhileOdd(t *testing.T) {
	for _, odd := range []int64{1, 3, 77, -1, -3, math.MaxInt64, math.MinInt64 + 1} {
		m := filled(odd, 5, 6)
		var got []int64
		body := func(f *frame.Frame) { got = seq.Read(f, 0, 2) }
		f := frame.New(m)
		for now := range 30 {
			if f.Step(now, body) || len(got) != 0 || f.Steps() != now+1 {
				t.Fatalf("count %d, step %d: %v, %d accesses", odd, now, got, f.Steps())
			}
		}
		holds(t, m, odd, 5, 6)
		m.Store(0, odd+1)
		for now := range 4 {
			if done := f.Step(now, body); done != (now == 3) {
				t.Errorf("count %d, step %d behind it: %t", odd, now, done)
			}
		}
		if !slices.Equal(got, []int64{5, 6}) {
			t.Errorf("count %d: %v", odd, got)
		}
	}
}

// P4.1: a Read whose count is another one at its end begins all anew, with a load of the
// count; also where the count is less than it was.
func TestReadAnew(t *testing.T) {
	for _, then := range []int64{6, 1 << 33, 4 + 1<<32, 2, 0, -4} {
		m := filled(4, 10, 20)
		var got []int64
		body := func(f *frame.Frame) { got = seq.Read(f, 0, 2) }
		f := frame.New(m)
		for now := range 3 {
			f.Step(now, body)
		}
		for a, v := range []int64{then, 11, 21} {
			m.Store(a, v)
		}
		if f.Step(3, body) || len(got) != 0 {
			t.Fatalf("count 4, then %d: %v", then, got)
		}
		// The load that told of another count doesn't count as the new turn's first one.
		for now := range 4 {
			if done := f.Step(4+now, body); done != (now == 3) {
				t.Fatalf("count %d, step %d of the second turn: %t", then, now, done)
			}
		}
		if !slices.Equal(got, []int64{11, 21}) || f.Steps() != 8 {
			t.Errorf("count %d: %v with %d accesses", then, got, f.Steps())
		}
	}
}

// P4.1: a count that changed to an odd one at the end: all anew, so that it is loaded till it
// is even.
func TestReadAnewWhileOdd(t *testing.T) {
	m := filled(4, 10)
	var got []int64
	body := func(f *frame.Frame) { got = seq.Read(f, 0, 1) }
	f := frame.New(m)
	f.Step(0, body)
	f.Step(1, body)
	m.Store(0, 5)
	for now := range 10 {
		if f.Step(now, body) {
			t.Fatal(got)
		}
	}
	m.Store(1, 12)
	m.Store(0, 6)
	for now := range 3 {
		if done := f.Step(now, body); done != (now == 2) {
			t.Errorf("step %d: %t", now, done)
		}
	}
	if !slices.Equal(got, []int64{12}) || f.Steps() != 15 {
		t.Error(got, f.Steps())
	}
}

// P4.1: a frame that goes off in the midst of a Read: none, in each step but the last one;
// also where all words are 0, as an access that isn't done is answered.
func TestReadGoesOff(t *testing.T) {
	for _, words := range [][]int64{{0, 0, 0, 0}, {2, 7, 8, 9}, {-2, 0, 0, 0}} {
		m := filled(words...)
		var got []int64
		var off bool
		body := func(f *frame.Frame) {
			got = seq.Read(f, 0, 3)
			off = f.Off()
		}
		f := frame.New(m)
		for now := range 4 {
			if f.Step(now, body) || !off || len(got) != 0 {
				t.Errorf("%v, step %d: %v, Off %t", words, now, got, off)
			}
		}
		if !f.Step(4, body) || off || !slices.Equal(got, words[1:]) {
			t.Errorf("%v: %v, Off %t", words, got, off)
		}
	}
}

// P4.1: calls that the frame goes off with, and those while it is off.
func TestFrameIsOff(t *testing.T) {
	m := filled(0, 0, 3)
	f := frame.New(m)
	ran := false
	done := f.Step(0, func(f *frame.Frame) {
		f.Load(2)
		for range 2 {
			if got := seq.Read(f, 0, 1); len(got) != 0 || !f.Off() {
				t.Errorf("Read: %v, Off %t", got, f.Off())
			}
			seq.Write(f, 0, []int64{5, 6})
		}
		ran = true
	})
	if done || !ran || f.Steps() != 1 {
		t.Errorf("done %t, ran %t, %d accesses", done, ran, f.Steps())
	}
	g := frame.New(m)
	g.Step(0, func(f *frame.Frame) {
		f.Load(2)
		seq.Write(f, 0, []int64{5, 6})
		if !f.Off() {
			t.Error("a Write behind the step's access, and the frame is not off")
		}
	})
	holds(t, m, 0, 0, 3)
}

// P4.1, R1, R4: nothing is done of as many words as Words says 0 of: no access, and none
// are answered.
func TestNumbersOfWordsThatAreNone(t *testing.T) {
	m := filled(rising(2, 40)...)
	before := m.Words()
	for _, values := range [][]int64{nil, {}, make([]int64, 17), make([]int64, 18), make([]int64, 5000)} {
		if did := steps(t, m, func(f *frame.Frame) { seq.Write(f, 0, values) }); did != 0 {
			t.Errorf("Write of %d words: %d accesses", len(values), did)
		}
	}
	for _, n := range []int{0, -1, -2, 17, 18, 5000, math.MaxInt, math.MinInt} {
		var got []int64
		did := steps(t, m, func(f *frame.Frame) {
			got = seq.Read(f, 0, n)
			if f.Off() {
				t.Errorf("Read of %d words: the frame is off", n)
			}
		})
		if len(got) != 0 || did != 0 {
			t.Errorf("Read of %d words: %v with %d accesses", n, got, did)
		}
	}
	holds(t, m, before...)
}

// R1, P4.1: a nil frame, and one out of a step, are off: nothing is done, none are answered,
// and a Read ends.
func TestWithoutAStep(t *testing.T) {
	m := filled(2, 5, 6)
	fresh := frame.New(m)
	over := frame.New(m)
	over.Step(0, func(f *frame.Frame) { f.Load(0) })
	for _, f := range []*frame.Frame{nil, fresh, over} {
		before := f.Steps()
		for _, at := range []int{0, -1, 3, math.MaxInt, math.MinInt} {
			for _, n := range []int{-1, 0, 1, 2, 16, 17} {
				if got := seq.Read(f, at, n); len(got) != 0 {
					t.Errorf("Read: %v", got)
				}
				seq.Write(f, at, make([]int64, max(n, 0)))
			}
		}
		if f.Steps() != before {
			t.Errorf("%d accesses", f.Steps()-before)
		}
		holds(t, m, 2, 5, 6)
	}
}

// R1, P4.1 with P2.1: of an address that is none an access is answered 0, and counts: so a
// value there is of words of 0, and nothing is written.
func TestAddressThatIsNone(t *testing.T) {
	memories := []*word.Mem{filled(2, 5, 6), word.New(0), nil}
	for _, m := range memories {
		for _, at := range []int{3, 4000, -4, -4000, math.MaxInt, math.MaxInt - 1, math.MinInt} {
			got := []int64{1}
			did := steps(t, m, func(f *frame.Frame) {
				seq.Write(f, at, []int64{8, 9})
				got = seq.Read(f, at, 2)
			})
			if !slices.Equal(got, []int64{0, 0}) || did != 5+4 {
				t.Errorf("at %d: %v with %d accesses", at, got, did)
			}
		}
	}
	holds(t, memories[0], 2, 5, 6)
}

// R1: a value of which some words are there: the others are as addresses that are none.
func TestPartOfAValue(t *testing.T) {
	m := filled(2, 5, 6)
	var got []int64
	did := steps(t, m, func(f *frame.Frame) {
		seq.Write(f, -1, []int64{7, 8})
		got = seq.Read(f, -1, 2)
	})
	if !slices.Equal(got, []int64{7, 8}) || did != 9 {
		t.Error(got, did)
	}
	holds(t, m, 7, 8, 6)

	did = steps(t, m, func(f *frame.Frame) {
		seq.Write(f, 2, []int64{7, 8})
		got = seq.Read(f, 2, 2)
	})
	if !slices.Equal(got, []int64{0, 0}) || did != 9 {
		t.Error(got, did)
	}
	holds(t, m, 7, 8, 8)
}

// R1: a Read of a count that stays odd ends within each step.
func TestReadNeverEven(t *testing.T) {
	m := filled(1, 4)
	if frame.Run(m, func(f *frame.Frame) { seq.Read(f, 0, 1) }, 1000) {
		t.Error("read what is written")
	}
	holds(t, m, 1, 4)
}

// R3: what is written is left as it is, its spare room too, and not kept.
func TestWriteLeavesItsValues(t *testing.T) {
	room := []int64{1, 2, 3, 4}
	values := room[:2]
	m := word.New(5)
	steps(t, m, func(f *frame.Frame) { seq.Write(f, 0, values) })
	if !slices.Equal(room, []int64{1, 2, 3, 4}) {
		t.Error(room)
	}
	room[0], room[1] = 8, 9
	holds(t, m, 2, 1, 2, 0, 0)
}

// R3: an answer is new memory, spare room too: changed, it changes no other one, nor what is
// read next.
func TestReadAnswersNewMemory(t *testing.T) {
	m := filled(2, 5, 6)
	steps(t, m, func(f *frame.Frame) {
		one, two := seq.Read(f, 0, 2), seq.Read(f, 0, 2)
		if f.Off() {
			return
		}
		for i := range one[:cap(one)] {
			one[:cap(one)][i] = 99
		}
		three := seq.Read(f, 0, 2)
		if f.Off() {
			return
		}
		if !slices.Equal(two, []int64{5, 6}) || !slices.Equal(three, []int64{5, 6}) {
			t.Error(two, three)
		}
	})
	holds(t, m, 2, 5, 6)
}

// R2: what a call answers depends on its frame's accesses alone.
func TestSameHistorySameAnswers(t *testing.T) {
	play := func() []int64 {
		m := filled(4, 1, 1)
		var got []int64
		steps(t, m, func(f *frame.Frame) {
			seq.Write(f, 0, []int64{3})
			got = seq.Read(f, 0, 2)
		})
		return append(got, m.Words()...)
	}
	one := play()
	steps(t, word.New(3), func(f *frame.Frame) { seq.Write(f, 0, []int64{6, 6}) })
	if two := play(); !slices.Equal(one, two) {
		t.Errorf("%v, then %v", one, two)
	}
}

// reader is a body that Reads once, and what stood in memory with each of its accesses.
type reader struct {
	frame *frame.Frame
	n     int
	got   []int64
	seen  [][]int64
}

func (r *reader) body(f *frame.Frame) { r.got = seq.Read(f, 0, r.n) }

// step takes a step, and notes the words, if that was an access.
func (r *reader) step(now int, m *word.Mem) {
	before := r.frame.Steps()
	r.frame.Step(now, r.body)
	if r.frame.Steps() > before {
		r.seen = append(r.seen, m.Words())
	}
}

// check fails the test, unless what was read is what stood in memory with each access of the
// last turn, none of it while a Write was underway.
func (r *reader) check(t *testing.T, order any) {
	t.Helper()
	if !r.frame.Done() {
		t.Fatalf("order %v: a reader is not done", order)
	}
	for _, words := range r.seen[len(r.seen)-r.n-2:] {
		if words[0]%2 != 0 || !slices.Equal(words[1:], r.got) {
			t.Fatalf("order %v: read %v, while %v stood there", order, r.got, words)
		}
	}
}

// writer answers a body of so many Writes of n words, each value's words all its own number.
func writer(n, writes int) frame.Body {
	return func(f *frame.Frame) {
		for k := range writes {
			values := make([]int64, n)
			for i := range values {
				values[i] = int64(k + 1)
			}
			seq.Write(f, 0, values)
		}
	}
}

// readers answers so many readers of one value.
func readers(m *word.Mem, n, size int) []*reader {
	all := make([]*reader, size)
	for i := range all {
		all[i] = &reader{frame: frame.New(m), n: n}
	}
	return all
}

// P4.2: one that writes and several that read, in orders by a rule; then each by itself, the
// writer first, so that all of them end.
func TestOneWritesManyRead(t *testing.T) {
	for _, n := range []int{1, 2, 3, 5, api.MaxSize} {
		for size := 1; size <= 3; size++ {
			for seed := range 150 {
				m := word.New(seq.Words(n))
				// The count goes round in some of them.
				m.Store(0, []int64{0, math.MaxInt64 - 3, -6}[seed%3])
				w, write := frame.New(m), writer(n, 3)
				all := readers(m, n, size)
				state := uint32(seed)*2654435761 + 1
				for now := range 400 {
					state = state*1664525 + 1013904223
					// Few steps of the writer in some orders, many in others.
					if who := int(state>>16) % (size + 1 + seed%4); who < size && now < 250 {
						all[who].step(now, m)
					} else if now < 300 {
						w.Step(now, write)
					} else {
						for _, r := range all {
							r.step(now, m)
						}
					}
				}
				if !w.Done() {
					t.Fatal("the writer is not done")
				}
				for _, r := range all {
					r.check(t, []int{n, size, seed})
				}
			}
		}
	}
}

// follow plays a writer and a reader through every order of their steps, to the depth given,
// and then both to their end.
func follow(t *testing.T, n int, order []bool, depth int) {
	if depth > 0 {
		for _, reads := range []bool{false, true} {
			follow(t, n, append(slices.Clone(order), reads), depth-1)
		}
		return
	}
	m := word.New(seq.Words(n))
	w, write := frame.New(m), writer(n, 2)
	r := readers(m, n, 1)[0]
	for now, reads := range order {
		if reads {
			r.step(now, m)
		} else {
			w.Step(now, write)
		}
	}
	for now := range 40 {
		w.Step(now, write)
	}
	for now := range 40 {
		r.step(now, m)
	}
	r.check(t, order)
}

// P4.2: every order of the first 13 steps of one that writes and one that reads.
func TestEveryOrder(t *testing.T) {
	for _, n := range []int{1, 2} {
		follow(t, n, nil, 13)
	}
}

// P4.2: a writer that goes on between all steps of a Read: the value that stood from its
// first load to its last, not an older one, and not one of two values' words.
func TestReadAmidTwoWrites(t *testing.T) {
	m := word.New(seq.Words(2))
	w, write := frame.New(m), writer(2, 2)
	r := readers(m, 2, 1)[0]
	for range 5 { // the first Write is over
		w.Step(0, write)
	}
	r.step(0, m) // the count: 2
	r.step(0, m) // 1
	for range 3 {
		w.Step(0, write) // the second Write has its first word there
	}
	r.step(0, m) // 1, the old one still
	r.step(0, m) // the count: 3
	if r.frame.Done() {
		t.Fatal(r.got)
	}
	for range 2 {
		w.Step(0, write)
	}
	for range 4 {
		r.step(0, m)
	}
	r.check(t, "amid two Writes")
	if !slices.Equal(r.got, []int64{2, 2}) {
		t.Error(r.got)
	}
}
