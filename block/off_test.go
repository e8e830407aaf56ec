package block_test

import (
	"math"
	"slices"
	"testing"

	"septum/api"
	"septum/block"
	"septum/frame"
	"septum/word"
)

// sizes are some that a set may have.
var sizes = []int{1, 2, 3, 15, 16}

// addresses are some of a memory of 20 words, and some that are none.
var addresses = []int{0, 1, 7, 12, 16, 17, 18, 19, 20, 21, 3999, 4000, -1, -2, -3, -4, -17, -18, -4000, 1 << 32,
	math.MaxInt, math.MaxInt - 1, math.MaxInt - 2, math.MaxInt - 17, math.MinInt, math.MinInt + 1}

// states are sets of 3 blocks at 1, in every state that calls can leave: by the free ones.
var states = [][]int{
	{}, {0}, {1}, {2}, {0, 1}, {1, 0}, {0, 2}, {2, 0}, {1, 2}, {2, 1},
	{0, 1, 2}, {0, 2, 1}, {1, 0, 2}, {1, 2, 0}, {2, 0, 1}, {2, 1, 0},
}

// three makes a memory with a set of 3 blocks at 1 that has these free ones.
func three(state []int) *word.Mem {
	words := append([]int64{-5}, set{n: 3, free: state}.words()...)
	return filled(append(words, -6)...)
}

// aCall is a call of a set of 3 blocks at 1, and what it should answer in a state.
type aCall struct {
	name string
	body func(a *answer) frame.Body
	want func(state []int) answer
}

// calls answers all calls of a set of 3 blocks at 1, of each block.
func calls() []aCall {
	list := []aCall{
		{"Init", func(*answer) frame.Body { return inits(1, 3) }, func([]int) answer { return none }},
		{"Take", func(a *answer) frame.Body { return takes(1, 3, a) }, func(state []int) answer {
			if len(state) == 0 {
				return none
			}
			return answer{state[0], true}
		}},
	}
	for i := range 3 {
		list = append(list,
			aCall{"Give", func(a *answer) frame.Body { return gives(1, 3, i, a) },
				func(state []int) answer { return answer{ok: !slices.Contains(state, i)} }},
			aCall{"Free", func(a *answer) frame.Body { return frees(1, 3, i, a) },
				func(state []int) answer { return answer{ok: slices.Contains(state, i)} }})
	}
	return list
}

// changed tells how many words are others.
func changed(before, behind []int64) int {
	n := 0
	for a := range before {
		if before[a] != behind[a] {
			n++
		}
	}
	return n
}

// P9.1: each call in each state: if the frame goes off, 0, false, step by step, ahead of the step
// that does the call's last access; and then what it should.
func TestAnswersGoOff(t *testing.T) {
	for _, state := range states {
		for _, c := range calls() {
			m := three(state)
			a := answer{}
			body := func(f *frame.Frame) {
				f.Load(0) // so that the first step has none left
				c.body(&a)(f)
			}
			f := frame.New(m)
			for now := 0; !f.Step(now, body); now++ {
				if a != none {
					t.Errorf("%s with %v free, step %d: %v", c.name, state, now, a)
				}
				if now > most {
					t.Fatalf("%s is not done", c.name)
				}
			}
			if want := c.want(state); a != want {
				t.Errorf("%s with %v free: %v, want %v", c.name, state, a, want)
			}
			if f.Steps() < 2 || f.Steps() > most+1 {
				t.Errorf("%s with %v free: %d accesses", c.name, state, f.Steps())
			}
		}
	}
}

// P9.1: each call in each state, step by step: one access a step, off behind each one but the last,
// and behind that what one go does, also if a word that isn't the set's changes in between.
func TestCallsGoOff(t *testing.T) {
	for _, state := range states {
		for _, c := range calls() {
			m, whole := three(state), three(state)
			a := answer{}
			play(t, whole, c.body(&a))
			off := false
			body := func(f *frame.Frame) { c.body(&a)(f); off = f.Off() }
			f := frame.New(m)
			for now := 0; ; now++ {
				before := m.Words()
				done := f.Step(now, body)
				if f.Steps() != now+1 || off == done || changed(before, m.Words()) > 1 {
					t.Errorf("%s, step %d: done %t, Off %t, %d accesses", c.name, now, done, off, f.Steps())
				}
				if done || now > most {
					break
				}
				m.Store(0, int64(now))
			}
			m.Store(0, -5)
			holds(t, m, whole.Words())
		}
	}
}

// P9.1: many calls of one body, which goes off in the midst of each of them.
func TestBodyOfManyCalls(t *testing.T) {
	m := filled(strange(6)...)
	var got []answer
	body := func(f *frame.Frame) {
		got = nil
		block.Init(f, 1, 3)
		for _, i := range []int{-1, -1, 0, -1, -1, -1, 1, 2, -1} {
			a := answer{i, false}
			if i < 0 {
				a.i, a.ok = block.Take(f, 1, 3)
			} else {
				a.ok = block.Give(f, 1, 3, i)
			}
			got = append(got, a)
		}
	}
	if !frame.Run(m, body, 200) {
		t.Error("the body is not done")
	}
	want := []answer{{0, true}, {1, true}, {0, true}, {0, true}, {2, true}, {0, false}, {1, true}, {2, true}, {2, true}}
	if !slices.Equal(got, want) {
		t.Errorf("%v, want %v", got, want)
	}
	holds(t, m, []int64{-1000, 2, -1, 0, -1, -1005})
}

// P9.1: a Take and a Give of words that changed ahead of the step that sees them: what a call
// answers is what its own accesses say.
func TestWhatItsOwnAccessesSay(t *testing.T) {
	a := answer{}
	m := three([]int{0, 1, 2})
	f := frame.New(m)
	body := func(f *frame.Frame) { f.Load(0); takes(1, 3, &a)(f) }
	f.Step(0, body)
	play(t, m, takes(1, 3, new(answer)))
	for now := 1; !f.Step(now, body) && now < most; now++ {
	}
	if a != (answer{1, true}) {
		t.Errorf("Take behind a Take: %v", a)
	}
	body = func(f *frame.Frame) { f.Load(0); gives(1, 3, 2, &a)(f) }
	f = frame.New(m)
	f.Step(0, body)
	play(t, m, takes(1, 3, new(answer)))
	for now := 1; !f.Step(now, body) && now < most; now++ {
	}
	if a != (answer{0, true}) {
		t.Errorf("Give behind a Take: %v", a)
	}
	holds(t, m, []int64{-5, 3, -1, -1, 0, -6})
}

// everyOff does every call with a frame that is off.
func everyOff(t *testing.T, f *frame.Frame, at, n, i int) {
	t.Helper()
	block.Init(f, at, n)
	if i, ok := block.Take(f, at, n); i != 0 || ok {
		t.Errorf("Take of %d, %d: %d, %t", at, n, i, ok)
	}
	if block.Give(f, at, n, i) {
		t.Errorf("Give of %d, %d, %d: true", at, n, i)
	}
	if block.Free(f, at, n, i) {
		t.Errorf("Free of %d, %d, %d: true", at, n, i)
	}
}

// P9.1: calls behind the step's access: they go off, answer 0, false, and do nothing.
func TestFrameIsOff(t *testing.T) {
	for _, state := range states {
		list := calls()
		list = append(list, aCall{name: "all", body: func(*answer) frame.Body {
			return func(f *frame.Frame) {
				for i := range 3 {
					everyOff(t, f, 1, 3, i)
				}
			}
		}})
		for _, c := range list {
			m := three(state)
			f, off, a := frame.New(m), false, none
			done := f.Step(0, func(f *frame.Frame) {
				f.Load(0)
				c.body(&a)(f)
				off = f.Off()
			})
			if done || !off || f.Steps() != 1 || a != none {
				t.Errorf("%s: done %t, off %t, %d accesses, %v", c.name, done, off, f.Steps(), a)
			}
			holds(t, m, three(state).Words())
		}
	}
}

// R1, P9.1 with P2.1: a nil frame, and one out of a step, are off: nothing is done.
func TestWithoutAStep(t *testing.T) {
	words := strange(20)
	copy(words, set{n: 3, free: []int{2, 0}}.words())
	m := filled(words...)
	fresh, over, done := frame.New(m), frame.New(m), frame.New(m)
	over.Step(0, func(f *frame.Frame) { f.Load(0); f.Load(0) })
	done.Step(0, func(f *frame.Frame) { f.Load(0) })
	for _, f := range []*frame.Frame{nil, fresh, over, done, new(frame.Frame)} {
		steps := f.Steps()
		for _, n := range append(slices.Clone(sizes), noSizes...) {
			for _, at := range addresses {
				for _, i := range []int{0, 1, 2, -1, 3, 16, math.MaxInt, math.MinInt} {
					everyOff(t, f, at, n, i)
				}
			}
		}
		if f.Steps() != steps {
			t.Errorf("%d accesses", f.Steps()-steps)
		}
		holds(t, m, words)
	}
}

// P9.1: nothing is done of an n that is no size: no access, and 0, false, whether the words there
// say that blocks are free, or taken.
func TestSizesThatAreNone(t *testing.T) {
	for _, first := range []int64{0, 1, 2} {
		for _, v := range []int64{-1, 0, 2} {
			for _, n := range noSizes {
				words := slices.Repeat([]int64{v}, 40)
				words[0] = first
				m := filled(words...)
				f := frame.New(m)
				done := f.Step(0, func(f *frame.Frame) {
					for _, i := range []int{0, 1, 16, 17, -1, n - 1, n, math.MaxInt, math.MinInt} {
						everyOff(t, f, 0, n, i)
					}
					if f.Off() {
						t.Errorf("%d blocks: off", n)
					}
				})
				if !done || f.Steps() != 0 {
					t.Errorf("%d blocks: done %t, %d accesses", n, done, f.Steps())
				}
				holds(t, m, words)
			}
		}
	}
}

// everyCall does every call, of blocks that are there and of others: each ends, with few accesses,
// and what stands beside a false is 0.
func everyCall(t *testing.T, m *word.Mem, at, n int) {
	t.Helper()
	for range n + 1 {
		if a := take(t, m, at, n); !a.ok && a != none || a.i < 0 || a.i >= n {
			t.Errorf("Take of %d, %d: %v", at, n, a)
		}
	}
	for i := -1; i <= n; i++ {
		free(t, m, at, n, i)
		if give(t, m, at, n, i) && (i < 0 || i >= n) {
			t.Errorf("Give of %d, %d, %d: true", at, n, i)
		}
	}
	play(t, m, inits(at, n))
}

// R1, P9.1 with P2.1: of an address that is none a word is 0, and nothing is written: in a set that
// isn't there no block is the first free one, and none is taken.
func TestAddressThatIsNone(t *testing.T) {
	for _, m := range []*word.Mem{nil, word.New(0), new(word.Mem)} {
		for _, at := range addresses {
			for _, n := range sizes {
				everyCall(t, m, at, n)
				if a := take(t, m, at, n); a != none {
					t.Errorf("Take of %d: %v", at, a)
				}
				for i := range n {
					if give(t, m, at, n, i) || !free(t, m, at, n, i) {
						t.Errorf("block %d of %d at %d is taken", i, n, at)
					}
				}
			}
		}
	}
	for _, at := range addresses {
		for _, n := range sizes {
			m := filled(strange(20)...)
			everyCall(t, m, at, n)
			if at >= 20 || at < -17 {
				holds(t, m, strange(20))
			}
		}
	}
}

// P9.1 with P2.1: a set that lies half beyond the memory's end, and one half ahead of its begin:
// of the words that aren't there each is 0, and what is there stands as it should.
func TestSetBeyondTheEnds(t *testing.T) {
	m := filled(-5, -6, -7)
	play(t, m, inits(1, 3))
	holds(t, m, []int64{-5, 1, 2})
	for _, want := range []answer{{0, true}, {1, true}, none} {
		if a := take(t, m, 1, 3); a != want {
			t.Errorf("Take: %v, want %v", a, want)
		}
	}
	holds(t, m, []int64{-5, 0, -1})
	if !give(t, m, 1, 3, 0) || give(t, m, 1, 3, 1) || !free(t, m, 1, 3, 2) {
		t.Error("Give or Free beyond the end")
	}
	holds(t, m, []int64{-5, 1, 0})

	m = filled(-5, -6, -7)
	play(t, m, inits(-1, 3))
	holds(t, m, []int64{2, 3, 0})
	if a := take(t, m, -1, 3); a != none {
		t.Errorf("Take ahead of the begin: %v", a)
	}
	holds(t, m, []int64{2, 3, 0})
}

// oddWords are such as a set of n blocks may hold, and such as no calls leave in one.
func oddWords(n int) []int64 {
	words := []int64{-2, int64(n + 1), math.MaxInt64, math.MinInt64, 1<<32 + 1}
	for v := range n + 2 {
		words = append(words, int64(v-1))
	}
	return words
}

// everySet calls each with every choice of so many of the words.
func everySet(words []int64, begun []int64, left int, each func(words []int64)) {
	if left == 0 {
		each(begun)
		return
	}
	for _, v := range words {
		everySet(words, append(slices.Clone(begun), v), left-1, each)
	}
}

// R1: words that no calls can have left there, in every mixture: every call ends, with few
// accesses, nobody is led out of the set, and what is promised of each call holds: a block that is
// taken was free and isn't any more, one that is given back is taken first, and Init mends all.
func TestWordsThatNoCallsLeave(t *testing.T) {
	for n := 1; n <= 3; n++ {
		everySet(oddWords(n), nil, n+1, func(words []int64) {
			anyWords(t, n, words, taken)
			anyWords(t, n, words, 0)
		})
	}
}

// anyWords asks that of a set with these words, at 1, with such a word on both sides of it.
func anyWords(t *testing.T, n int, words []int64, side int64) {
	t.Helper()
	begin := append(append([]int64{side}, words...), side)
	m := filled(begin...)
	for range n + 1 {
		takeOfAny(t, m, n)
	}
	if a := take(t, m, 1, n); a != none {
		t.Errorf("one block more than %d: %v", n, a)
	}
	m = filled(begin...)
	for i := range n {
		giveOfAny(t, m, n, i)
	}
	everyCall(t, m, 1, n)
	holds(t, m, append(append([]int64{side}, freshSet(n)...), side))
	if t.Failed() {
		t.Fatal(words, side)
	}
}

// freshSet answers the words of a set behind its Init.
func freshSet(n int) []int64 {
	e := set{n: n}
	for i := range n {
		e.free = append(e.free, i)
	}
	return e.words()
}

// takeOfAny fails the test, unless a Take, whatever the words of the set at 1 hold, takes one that
// was free, or changes nothing.
func takeOfAny(t *testing.T, m *word.Mem, n int) {
	t.Helper()
	before := m.Words()
	a := take(t, m, 1, n)
	behind := m.Words()
	if !a.ok {
		if a != none || !slices.Equal(before, behind) {
			t.Errorf("Take: %v, words %v, then %v", a, before, behind)
		}
		return
	}
	if a.i < 0 || a.i >= n || before[2+a.i] == taken || behind[2+a.i] != taken {
		t.Fatalf("Take: %v, words %v, then %v", a, before, behind)
	}
	before[1], before[2+a.i] = behind[1], taken
	if !slices.Equal(before, behind) {
		t.Errorf("Take: %v, other words %v", a, behind)
	}
}

// giveOfAny fails the test, unless a Give, whatever the words of the set at 1 hold, gives back one
// that was taken, so that it is the first free one, or changes nothing.
func giveOfAny(t *testing.T, m *word.Mem, n, i int) {
	t.Helper()
	before := m.Words()
	was := free(t, m, 1, n, i)
	if was != (before[2+i] != taken) {
		t.Errorf("Free of %d: %t, words %v", i, was, before)
	}
	ok := give(t, m, 1, n, i)
	if ok == was {
		t.Errorf("Give of %d: %t, words %v", i, ok, before)
	}
	behind := m.Words()
	if !ok {
		holds(t, m, before)
		return
	}
	if !free(t, m, 1, n, i) {
		t.Errorf("Give of %d: it isn't free, words %v, then %v", i, before, behind)
	}
	if a := take(t, filled(behind...), 1, n); a != (answer{i, true}) {
		t.Errorf("Give of %d: then %v is taken, words %v, then %v", i, a, before, behind)
	}
	before[1], before[2+i] = behind[1], behind[2+i]
	if !slices.Equal(before, behind) {
		t.Errorf("Give of %d: other words %v", i, behind)
	}
}

// Words: a call of this layer does at most 60 accesses: of the greatest set, in any state. (play
// asks that of every call; here it is told of which calls it was asked.)
func TestMostAccesses(t *testing.T) {
	const n = api.MaxSize
	m := word.New(n + 1)
	a := answer{}
	for name, body := range map[string]frame.Body{
		"Init": inits(0, n), "Take": takes(0, n, &a), "Give": gives(0, n, n-1, &a), "Free": frees(0, n, n-1, &a),
	} {
		for gone := range n + 1 {
			play(t, m, inits(0, n))
			for range gone {
				take(t, m, 0, n)
			}
			if did := play(t, m, body); did < 1 || did > most {
				t.Errorf("%s with %d taken: %d accesses", name, gone, did)
			}
		}
	}
}
