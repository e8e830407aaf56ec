package frame_test

import (
	"math"
	"runtime"
	"slices"
	"testing"

	"septum/api"
	"septum/frame"
	"septum/word"
)

// filled makes a memory that holds the given words.
func filled(words ...int64) *word.Mem {
	m := word.New(len(words))
	for a, v := range words {
		m.Store(a, v)
	}
	return m
}

// holds fails the test, unless m holds just the given words.
func holds(t *testing.T, m *word.Mem, want ...int64) {
	t.Helper()
	if got := m.Words(); !slices.Equal(got, want) {
		t.Errorf("words: %v, want %v", got, want)
	}
}

// stands fails the test, unless the frame has done so many accesses, and is done or not, and
// off, as always while no step is underway.
func stands(t *testing.T, f *frame.Frame, steps int, done bool) {
	t.Helper()
	if f.Steps() != steps || f.Done() != done || !f.Off() {
		t.Errorf("Steps %d, Done %t, Off %t, want %d, %t, true", f.Steps(), f.Done(), f.Off(), steps, done)
	}
}

// marks fails the test, unless Marked answers just that.
func marks(t *testing.T, f *frame.Frame, want int, there bool) {
	t.Helper()
	if at, ok := f.Marked(); at != want || ok != there {
		t.Errorf("Marked: %d, %t, want %d, %t", at, ok, want, there)
	}
}

func truth(b bool) int64 {
	if b {
		return 1
	}
	return 0
}

// P2.1: a new frame has done no access, and New does none.
func TestNewHasDoneNothing(t *testing.T) {
	m := filled(3, 4)
	f := frame.New(m)
	if f == nil {
		t.Fatal("New is nil")
	}
	stands(t, f, 0, false)
	marks(t, f, 0, false)
	holds(t, m, 3, 4)
}

// P2.1: the chapter's example.
func TestTwoAddsAreTwoSteps(t *testing.T) {
	m := word.New(1)
	body := func(f *frame.Frame) {
		f.Add(0, 1)
		f.Add(0, 1)
	}
	f := frame.New(m)
	if f.Step(0, body) {
		t.Error("done behind one step")
	}
	stands(t, f, 1, false)
	holds(t, m, 1)
	if !f.Step(1, body) {
		t.Error("not done behind two steps")
	}
	stands(t, f, 2, true)
	holds(t, m, 2)
}

// P2.1: a step does the next access, of whatever kind, and no other one; those ahead of it
// are not done again.
func TestStepDoesOneAccess(t *testing.T) {
	m := filled(5, 0, 0, 8)
	body := func(f *frame.Frame) {
		f.Add(0, 2)
		f.Store(1, 9)
		f.Load(0)
		f.Swap(2, 0, 6)
		f.Swap(3, 1, 7)
		f.Add(0, -1)
	}
	after := [][]int64{
		{7, 0, 0, 8}, {7, 9, 0, 8}, {7, 9, 0, 8}, {7, 9, 6, 8}, {7, 9, 6, 8}, {6, 9, 6, 8},
	}
	f := frame.New(m)
	for i, want := range after {
		last := i == len(after)-1
		if done := f.Step(i, body); done != last {
			t.Errorf("step %d: %t", i, done)
		}
		holds(t, m, want...)
		stands(t, f, i+1, last)
	}
}

// P2.1: Load, Store, Add and Swap are layer 1's.
func TestAccessesAreWords(t *testing.T) {
	m := filled(math.MaxInt64, -4, math.MinInt64, 7)
	var got []int64
	body := func(f *frame.Frame) {
		got = []int64{
			f.Load(1),
			f.Add(0, 1),
			f.Load(0),
			f.Add(2, -1),
			truth(f.Swap(3, 7, math.MinInt64)),
			truth(f.Swap(3, 7, 5)),
			truth(f.Swap(1, -4, -4)),
		}
		f.Store(1, 1<<53+1)
		got = append(got, f.Load(1))
	}
	if !frame.Run(m, body, 9) {
		t.Error("not done")
	}
	want := []int64{-4, math.MaxInt64, math.MinInt64, math.MinInt64, 1, 0, 1, 1<<53 + 1}
	if !slices.Equal(got, want) {
		t.Errorf("answers %v, want %v", got, want)
	}
	holds(t, m, math.MinInt64, 1<<53+1, math.MaxInt64, math.MinInt64)
}

// Words: accesses of earlier steps are answered as they were, whatever has become of the
// words since.
func TestAnsweredAsTheyWere(t *testing.T) {
	m := filled(3, 10, 0, 5)
	var got []int64
	body := func(f *frame.Frame) {
		got = nil
		got = append(got, f.Load(0))
		got = append(got, f.Add(1, 1))
		got = append(got, truth(f.Swap(2, 0, 4)))
		got = append(got, truth(f.Swap(3, 0, 4)))
		got = append(got, f.Load(0))
	}
	f := frame.New(m)
	seen := [][]int64{
		{3, 0, 0, 0, 0}, {3, 10, 0, 0, 0}, {3, 10, 1, 0, 0}, {3, 10, 1, 0, 0}, {3, 10, 1, 0, 77},
	}
	for i, want := range seen {
		f.Step(i, body)
		if !slices.Equal(got, want) {
			t.Errorf("step %d: answers %v, want %v", i, got, want)
		}
		// Another one changes each word that the step has seen.
		switch i {
		case 0:
			m.Store(0, 77)
		case 1:
			m.Store(1, -1)
		case 2:
			m.Store(2, 0)
		case 3:
			m.Store(3, 0)
		}
	}
	stands(t, f, 5, true)
	holds(t, m, 77, -1, 0, 0)
}

// Words: with the first access that is asked for behind the step's own the frame goes off,
// not ahead of that; all from there on are not done, and answered 0.
func TestGoesOff(t *testing.T) {
	m := filled(4, 4, 4, 4)
	var off []bool
	var got []int64
	body := func(f *frame.Frame) {
		off, got = nil, nil
		see := func(v int64) { off, got = append(off, f.Off()), append(got, v) }
		see(-1)
		see(f.Load(0))
		see(f.Add(1, 1))
		see(truth(f.Swap(2, 4, 5)))
		f.Store(3, 6)
		see(f.Load(3))
	}
	f := frame.New(m)
	seen := []struct {
		off []bool
		got []int64
	}{
		{[]bool{false, false, true, true, true}, []int64{-1, 4, 0, 0, 0}},
		{[]bool{false, false, false, true, true}, []int64{-1, 4, 4, 0, 0}},
		{[]bool{false, false, false, false, true}, []int64{-1, 4, 4, 1, 0}},
		{[]bool{false, false, false, false, true}, []int64{-1, 4, 4, 1, 0}},
		{[]bool{false, false, false, false, false}, []int64{-1, 4, 4, 1, 6}},
	}
	for i, want := range seen {
		if done := f.Step(i, body); done != (i == 4) {
			t.Errorf("step %d: %t", i, done)
		}
		if !slices.Equal(off, want.off) || !slices.Equal(got, want.got) {
			t.Errorf("step %d: %v, %v, want %v", i, off, got, want)
		}
	}
	holds(t, m, 4, 5, 5, 6)
}

// Words: the frame goes off with an access of each kind alike, also with one whose address is none.
func TestGoesOffWithAnyAccess(t *testing.T) {
	second := []func(f *frame.Frame){
		func(f *frame.Frame) { f.Load(0) },
		func(f *frame.Frame) { f.Store(0, 9) },
		func(f *frame.Frame) { f.Add(0, 9) },
		func(f *frame.Frame) { f.Swap(0, 3, 9) },
		func(f *frame.Frame) { f.Load(-1) },
		func(f *frame.Frame) { f.Store(1, 9) },
		func(f *frame.Frame) { f.Add(1, 9) },
		func(f *frame.Frame) { f.Swap(1, 0, 9) },
	}
	for i, access := range second {
		m := filled(3)
		f := frame.New(m)
		off := false
		if f.Step(0, func(f *frame.Frame) { f.Load(0); access(f); off = f.Off() }) || !off {
			t.Errorf("access %d: off %t", i, off)
		}
		holds(t, m, 3)
		stands(t, f, 1, false)
	}
}

// P2.1: a body whose next access depends on what an earlier one answered.
func TestNextAccessDepends(t *testing.T) {
	follow := func(f *frame.Frame) {
		at := 0
		for range 4 {
			at = int(f.Load(at))
			if f.Off() {
				return
			}
		}
		f.Store(at, -9)
	}
	m := filled(2, 4, 3, 1, 0)
	f := frame.New(m)
	for i := range 5 {
		if done := f.Step(i, follow); done != (i == 4) {
			t.Errorf("step %d: %t", i, done)
		}
		if i == 1 {
			m.Store(0, 0) // seen already: it leads no other way any more
		}
	}
	holds(t, m, 0, 4, 3, 1, -9)
	stands(t, f, 5, true)
}

// P2.1: a body that waits for a word that another one stores.
func TestWaitsForAWord(t *testing.T) {
	m := word.New(2)
	wait := func(f *frame.Frame) {
		for f.Load(0) == 0 && !f.Off() {
		}
		f.Store(1, 8)
	}
	f := frame.New(m)
	for i := range 6 {
		if f.Step(i, wait) {
			t.Errorf("step %d: done", i)
		}
	}
	holds(t, m, 0, 0)
	m.Store(0, 1)
	if f.Step(6, wait) || !f.Step(7, wait) {
		t.Error("two steps more, the load and the store")
	}
	holds(t, m, 1, 8)
	stands(t, f, 8, true)
}

// P2.1: a body of no access is done with its first step.
func TestBodyOfNoAccess(t *testing.T) {
	m := filled(1)
	f := frame.New(m)
	off := true
	if !f.Step(3, func(f *frame.Frame) { off = f.Off(); f.Mark() }) || off {
		t.Error("not done, or off")
	}
	stands(t, f, 0, true)
	marks(t, f, 0, false)
	holds(t, m, 1)
}

// P2.1: a Step of a nil body does nothing, ahead, between and behind.
func TestNilBody(t *testing.T) {
	m := word.New(1)
	f := frame.New(m)
	body := func(f *frame.Frame) { f.Add(0, 1); f.Mark(); f.Add(0, 1) }
	if f.Step(1, nil) {
		t.Error("done ahead")
	}
	stands(t, f, 0, false)
	f.Step(2, body)
	if f.Step(3, nil) {
		t.Error("done between")
	}
	stands(t, f, 1, false)
	marks(t, f, 2, true)
	holds(t, m, 1)
	f.Step(4, body)
	if !f.Step(5, nil) {
		t.Error("not done behind")
	}
	stands(t, f, 2, true)
	marks(t, f, 2, true)
	holds(t, m, 2)
}

// P2.1: once the body is done a Step does nothing, not of another body either.
func TestStepBehindTheEnd(t *testing.T) {
	m := word.New(2)
	f := frame.New(m)
	body := func(f *frame.Frame) { f.Add(0, 1); f.Mark() }
	f.Step(7, body)
	begun := false
	other := func(f *frame.Frame) { begun = true; f.Add(0, 1); f.Add(1, 1); f.Mark() }
	for i, b := range []frame.Body{body, other, nil} {
		if !f.Step(20+i, b) || begun {
			t.Errorf("step %d: begun %t", i, begun)
		}
		stands(t, f, 1, true)
		marks(t, f, 7, true)
		holds(t, m, 1, 0)
	}
}

// P2.1: an address that is none answers 0 or false, changes nothing, and takes its step.
func TestAddressesThatAreNone(t *testing.T) {
	for _, a := range []int{-1, 2, api.MaxWords, math.MinInt, math.MaxInt} {
		m := word.New(2)
		got := []int64{-1}
		body := func(f *frame.Frame) {
			load := f.Load(a)
			f.Store(a, 5)
			add := f.Add(a, 5)
			swap := truth(f.Swap(a, 0, 0))
			f.Mark()
			got = []int64{load, add, swap, f.Add(0, 3)}
		}
		f := frame.New(m)
		for i := range 5 {
			if done := f.Step(i*i, body); done != (i == 4) || f.Steps() != i+1 {
				t.Errorf("address %d, step %d: %t, Steps %d", a, i, done, f.Steps())
			}
		}
		if !slices.Equal(got, []int64{0, 0, 0, 0}) {
			t.Errorf("address %d: %v", a, got)
		}
		marks(t, f, 9, true)
		holds(t, m, 3, 0)
	}
}

// P2.1: Steps and Done within a step tell of what is up to there.
func TestStepsAndDoneWithinAStep(t *testing.T) {
	f := frame.New(word.New(1))
	var steps []int
	body := func(f *frame.Frame) {
		steps = nil
		for range 3 {
			steps = append(steps, f.Steps())
			f.Load(0)
			if f.Done() {
				t.Error("done within a step")
			}
		}
		steps = append(steps, f.Steps())
	}
	for i, want := range [][]int{{0, 1, 1, 1}, {1, 1, 2, 2}, {2, 2, 2, 3}} {
		f.Step(i, body)
		if !slices.Equal(steps, want) {
			t.Errorf("step %d: %v, want %v", i, steps, want)
		}
	}
	stands(t, f, 3, true)
}

// P2.2: a mark is the time of the access ahead of it, in that step and in later ones.
func TestMarkIsTheTimeOfTheAccess(t *testing.T) {
	f := frame.New(word.New(1))
	body := func(f *frame.Frame) {
		f.Load(0)
		f.Load(0)
		if !f.Off() {
			f.Mark()
		}
		f.Load(0)
		f.Load(0)
	}
	times := []int{50, -3, math.MaxInt, -3}
	for i, now := range times {
		f.Step(now, body)
		marks(t, f, []int{0, -3, -3, -3}[i], i > 0)
	}
	stands(t, f, 4, true)
}

// P2.2: without an access ahead there is no mark, and an earlier step's doesn't count.
func TestMarkWithoutAnAccessAhead(t *testing.T) {
	f := frame.New(word.New(1))
	f.Step(5, func(f *frame.Frame) { f.Mark(); f.Load(0); f.Load(0) })
	marks(t, f, 0, false)

	g := frame.New(word.New(1))
	g.Step(5, func(f *frame.Frame) { f.Load(0); f.Mark(); f.Load(0) })
	marks(t, g, 5, true)
	g.Step(6, func(f *frame.Frame) { f.Mark(); f.Load(0); f.Load(0) })
	marks(t, g, 0, false)
}

// P2.2: of two marks in one step the later one counts, also if its access is the same.
func TestTwoMarksInOneStep(t *testing.T) {
	f := frame.New(word.New(1))
	body := func(f *frame.Frame) {
		f.Load(0)
		f.Mark()
		f.Mark()
		f.Load(0)
		if !f.Off() {
			f.Mark()
		}
		f.Load(0)
	}
	for i, want := range []int{10, 20, 20} {
		f.Step(10*(i+1), body)
		marks(t, f, want, true)
	}
}

// P2.2: a mark behind an access that wasn't done is that of the last one that was.
func TestMarkWhileOff(t *testing.T) {
	f := frame.New(word.New(1))
	body := func(f *frame.Frame) {
		f.Load(0)
		f.Load(0)
		f.Load(0)
		f.Mark()
	}
	for _, now := range []int{4, 6, 9} {
		f.Step(now, body)
		marks(t, f, now, true)
	}
	stands(t, f, 3, true)
}

// P2.2: which mark counts may depend on what an access answers.
func TestMarkThatDepends(t *testing.T) {
	body := func(f *frame.Frame) {
		for range 2 {
			if f.Swap(0, 0, 1) && !f.Off() {
				f.Mark()
			}
		}
		f.Load(0)
	}
	for i, want := range []struct {
		at    int
		there bool
	}{{0, true}, {1, true}, {0, false}} {
		m := filled(1)
		f := frame.New(m)
		for now := range 3 {
			if now == i {
				m.Store(0, 0)
			}
			f.Step(now, body)
		}
		marks(t, f, want.at, want.there)
		stands(t, f, 3, true)
	}
}

// P2.2: Marked within a step tells of that step.
func TestMarkedWithinAStep(t *testing.T) {
	f := frame.New(word.New(1))
	body := func(f *frame.Frame) {
		marks(t, f, 0, false)
		f.Load(0)
		f.Mark()
		marks(t, f, 8, true)
		f.Load(0)
	}
	f.Step(8, body)
	f.Step(9, body)
	stands(t, f, 2, true)
}

// P2.2: Run.
func TestRun(t *testing.T) {
	five := func(f *frame.Frame) {
		for range 5 {
			f.Add(0, 1)
		}
	}
	runs := []struct {
		most  int
		done  bool
		added int64
	}{
		{math.MinInt, false, 0}, {-1, false, 0}, {0, false, 0}, {1, false, 1}, {4, false, 4},
		{5, true, 5}, {6, true, 5}, {math.MaxInt, true, 5},
	}
	for _, r := range runs {
		m := word.New(1)
		if done := frame.Run(m, five, r.most); done != r.done {
			t.Errorf("Run of %d: %t", r.most, done)
		}
		holds(t, m, r.added)
	}
}

// P2.2: Run's i-th step has the time i, and a frame of its own.
func TestRunsTimes(t *testing.T) {
	m := word.New(1)
	var seen []int
	body := func(f *frame.Frame) {
		seen = nil
		for range 4 {
			f.Load(0)
			f.Mark()
			at, _ := f.Marked()
			seen = append(seen, at)
		}
	}
	for range 2 {
		if !frame.Run(m, body, 9) || !slices.Equal(seen, []int{0, 1, 2, 3}) {
			t.Errorf("times %v", seen)
		}
	}
}

// P2.2: Run of a body of no access, and of a nil one, which ends however many steps it may take.
func TestRunOfNoAccess(t *testing.T) {
	m := filled(2)
	empty := func(f *frame.Frame) {}
	if !frame.Run(m, empty, 1) || !frame.Run(m, empty, math.MaxInt) || !frame.Run(nil, empty, 1) {
		t.Error("not done")
	}
	if frame.Run(m, empty, 0) || frame.Run(m, empty, -5) {
		t.Error("done without a step")
	}
	for _, most := range []int{math.MinInt, 0, 1, 9, math.MaxInt} {
		if frame.Run(m, nil, most) || frame.Run(nil, nil, most) {
			t.Errorf("nil body done, of %d", most)
		}
	}
	holds(t, m, 2)
}

// counting makes a body that adds 1 to the word 0 by a load and a store, times over, and
// tells what it loaded.
func counting(times int, seen *[]int64) frame.Body {
	return func(f *frame.Frame) {
		*seen = nil
		for range times {
			v := f.Load(0)
			f.Store(0, v+1)
			*seen = append(*seen, v)
		}
	}
}

// orders calls each with all orders of a steps of 0 and b steps of 1.
func orders(a, b int, ahead []int, each func(order []int)) {
	if a == 0 && b == 0 {
		each(ahead)
		return
	}
	if a > 0 {
		orders(a-1, b, append(slices.Clone(ahead), 0), each)
	}
	if b > 0 {
		orders(a, b-1, append(slices.Clone(ahead), 1), each)
	}
}

// countingByHand does what two counting bodies do in that order, with no frame: what each
// one sees, and what the word is in the end.
func countingByHand(order []int) (seen [2][]int64, w int64) {
	var done [2]int
	for _, who := range order {
		if done[who]%2 == 0 {
			seen[who] = append(seen[who], w)
		} else {
			w = seen[who][done[who]/2] + 1
		}
		done[who]++
	}
	return seen, w
}

// P2.3: two frames in turns do their accesses in that order, whatever the order is, and each
// body sees what its own accesses answer.
func TestTwoFramesInTurns(t *testing.T) {
	orders(6, 4, nil, func(order []int) {
		m := word.New(1)
		var seen [2][]int64
		bodies := [2]frame.Body{counting(3, &seen[0]), counting(2, &seen[1])}
		frames := [2]*frame.Frame{frame.New(m), frame.New(m)}
		for now, who := range order {
			frames[who].Step(now, bodies[who])
		}
		want, w := countingByHand(order)
		if !slices.Equal(seen[0], want[0]) || !slices.Equal(seen[1], want[1]) || m.Words()[0] != w {
			t.Errorf("order %v: %v, %v, want %v, %d", order, seen, m.Words(), want, w)
		}
		stands(t, frames[0], 6, true)
		stands(t, frames[1], 4, true)
	})
}

// P2.3: adds are whole, in whatever order; each body has other numbers.
func TestTwoFramesThatAdd(t *testing.T) {
	orders(4, 4, nil, func(order []int) {
		m := word.New(1)
		var drawn [2][]int64
		draw := func(who int) frame.Body {
			return func(f *frame.Frame) {
				drawn[who] = nil
				for range 4 {
					drawn[who] = append(drawn[who], f.Add(0, 1))
				}
			}
		}
		frames := [2]*frame.Frame{frame.New(m), frame.New(m)}
		var want [2][]int64
		for now, who := range order {
			frames[who].Step(now, draw(who))
			want[who] = append(want[who], int64(now))
		}
		if !slices.Equal(drawn[0], want[0]) || !slices.Equal(drawn[1], want[1]) {
			t.Errorf("order %v: %v", order, drawn)
		}
		holds(t, m, 8)
	})
}

// P2.3: a step of one frame within that of another is an access between the other's.
func TestAStepWithinAnothersStep(t *testing.T) {
	m := word.New(2)
	inner := frame.New(m)
	outer := frame.New(m)
	body := func(f *frame.Frame) {
		f.Add(0, 1)
		frame.Run(m, func(g *frame.Frame) { g.Add(1, 1); g.Add(1, 1) }, 2)
		inner.Step(0, func(g *frame.Frame) { g.Add(0, 10); g.Add(0, 10) })
		if f.Off() {
			t.Error("off by another's step")
		}
	}
	if !outer.Step(0, body) {
		t.Error("not done")
	}
	holds(t, m, 11, 2)
	stands(t, outer, 1, true)
	stands(t, inner, 1, false)
}

// outside fails the test, unless the frame's accesses do nothing.
func outside(t *testing.T, f *frame.Frame) {
	t.Helper()
	f.Store(0, 99)
	f.Mark()
	if f.Load(0) != 0 || f.Add(0, 5) != 0 || f.Swap(0, 7, 8) || f.Swap(0, 0, 0) || f.Load(-1) != 0 {
		t.Error("answered outside a step")
	}
}

// P2.1, P2.2: outside a step the frame is off: ahead of the first, between, behind the last.
func TestCallsOutsideAStep(t *testing.T) {
	m := filled(7)
	f := frame.New(m)
	body := func(f *frame.Frame) { f.Load(0); f.Mark(); f.Load(0); f.Load(0) }
	outside(t, f)
	stands(t, f, 0, false)
	marks(t, f, 0, false)
	for i := range 3 {
		f.Step(40+i, body)
		outside(t, f)
		stands(t, f, i+1, i == 2)
		marks(t, f, 40, true)
	}
	holds(t, m, 7)
}

// P2.2: a Mark outside a step is of no step, even if the last one had none.
func TestMarkOutsideAStep(t *testing.T) {
	f := frame.New(word.New(1))
	f.Step(6, func(f *frame.Frame) { f.Load(0) })
	f.Mark()
	marks(t, f, 0, false)
}

// P2.1: however often it is asked outside a step, it answers.
func TestOutsideAStepWithoutEnd(t *testing.T) {
	f := frame.New(filled(7))
	f.Step(0, func(f *frame.Frame) { f.Load(0); f.Load(0) })
	for range 1<<20 + 9 {
		if f.Load(0) != 0 {
			t.Fatal("answered outside a step")
		}
	}
	stands(t, f, 1, false)
}

// R1, P2.1: a nil frame is off, and answers zero for all else.
func TestNilFrame(t *testing.T) {
	var f *frame.Frame
	begun := false
	if f.Step(0, func(*frame.Frame) { begun = true }) || f.Step(0, nil) || begun {
		t.Error("Step of a nil frame")
	}
	outside(t, f)
	stands(t, f, 0, false)
	marks(t, f, 0, false)
}

// R1: a body that is handed a nil frame by hand, and a frame that New didn't make.
func TestFramesThatNewDidNotMake(t *testing.T) {
	body := func(f *frame.Frame) {
		f.Add(0, 1)
		f.Mark()
		f.Store(0, 1)
	}
	body(nil)
	f := new(frame.Frame)
	outside(t, f)
	if f.Step(3, body) || !f.Step(4, body) {
		t.Error("two steps")
	}
	stands(t, f, 2, true)
	marks(t, f, 3, true)
}

// R1: of a nil memory, or one of no words, each address is none; its accesses count.
func TestNilMemory(t *testing.T) {
	for _, m := range []*word.Mem{nil, word.New(0)} {
		var got []int64
		body := func(f *frame.Frame) {
			got = []int64{f.Load(0), f.Add(0, 4), truth(f.Swap(0, 0, 1))}
			f.Store(0, 4)
			f.Mark()
		}
		f := frame.New(m)
		for i := range 4 {
			if done := f.Step(i, body); done != (i == 3) {
				t.Errorf("step %d: %t", i, done)
			}
		}
		if !slices.Equal(got, []int64{0, 0, 0}) {
			t.Errorf("answers %v", got)
		}
		stands(t, f, 4, true)
		marks(t, f, 3, true)
		if frame.Run(m, body, 3) || !frame.Run(m, body, 4) {
			t.Error("Run takes four steps")
		}
	}
}

// R1: a body that panics at what an off frame answers goes on with its next step.
func TestBodyThatPanicsWhileOff(t *testing.T) {
	m := filled(12, 4)
	body := func(f *frame.Frame) {
		a := f.Load(0)
		f.Mark()
		f.Store(0, a/f.Load(1))
	}
	f := frame.New(m)
	for i := range 3 {
		if done := f.Step(i+5, body); done != (i == 2) {
			t.Errorf("step %d: %t", i, done)
		}
		stands(t, f, i+1, i == 2)
		marks(t, f, 5, true)
	}
	holds(t, m, 3, 4)
	if frame.Run(m, body, 2) || !frame.Run(m, body, 3) {
		t.Error("Run takes three steps")
	}
}

// R1: a body that panics with its frame not off is never done; its accesses are.
func TestBodyThatPanics(t *testing.T) {
	m := word.New(1)
	body := func(f *frame.Frame) {
		f.Add(0, 1)
		f.Mark()
		panic("body")
	}
	f := frame.New(m)
	for i := range 3 {
		if f.Step(i, body) {
			t.Error("done")
		}
		stands(t, f, 1, false)
		marks(t, f, 0, true)
	}
	holds(t, m, 1)
	if frame.Run(m, body, math.MaxInt) || frame.Run(m, func(*frame.Frame) { panic(nil) }, math.MaxInt) {
		t.Error("Run: done")
	}
	holds(t, m, 2)
}

// R1: a body that ends its goroutine leaves the frame with no step underway.
func TestBodyThatEndsItsGoroutine(t *testing.T) {
	m := word.New(1)
	f := frame.New(m)
	gone := make(chan bool)
	go func() {
		defer close(gone)
		f.Step(0, func(f *frame.Frame) { f.Add(0, 1); runtime.Goexit() })
	}()
	<-gone
	stands(t, f, 1, false)
	if !f.Step(1, func(f *frame.Frame) { f.Add(0, 1) }) {
		t.Error("not done")
	}
	holds(t, m, 1)
}

// R1: a body that waits without asking whether the frame is off has steps that end, too.
func TestBodyThatWaitsWhileOff(t *testing.T) {
	m := filled(1, 0)
	body := func(f *frame.Frame) {
		for !f.Swap(0, 0, 1) {
		}
		f.Mark()
		f.Store(1, 5)
	}
	f := frame.New(m)
	for i := range 3 {
		if f.Step(i, body) {
			t.Error("done")
		}
		stands(t, f, i+1, false)
		marks(t, f, 0, false)
	}
	holds(t, m, 1, 0)
	m.Store(0, 0)
	if f.Step(3, body) || !f.Step(4, body) {
		t.Error("two steps more, the swap and the store")
	}
	holds(t, m, 1, 5)
	marks(t, f, 3, true)
	if frame.Run(m, body, 4) {
		t.Error("Run: done")
	}
}

// R1: a long body is played to its end in each step, off or not.
func TestLongBodyComesToItsEnd(t *testing.T) {
	m := word.New(1)
	ends := 0
	body := func(f *frame.Frame) {
		for range 100000 {
			f.Add(0, 1)
		}
		ends++
	}
	f := frame.New(m)
	for i := range 12 {
		if f.Step(i, body) || ends != i+1 {
			t.Errorf("step %d: ended %d times", i, ends)
		}
	}
	holds(t, m, 12)
}

// R1: a body that steps its own frame does nothing by that.
func TestBodyThatStepsItsOwnFrame(t *testing.T) {
	m := word.New(1)
	f := frame.New(m)
	var body frame.Body
	body = func(f *frame.Frame) {
		f.Add(0, 1)
		f.Mark()
		if f.Step(77, body) {
			t.Error("done within a step")
		}
		f.Add(0, 1)
	}
	if f.Step(4, body) {
		t.Error("done behind one step")
	}
	stands(t, f, 1, false)
	if !f.Step(5, body) {
		t.Error("not done behind two")
	}
	stands(t, f, 2, true)
	marks(t, f, 4, true)
	holds(t, m, 2)
}

// R1: a body that is another one than in the step ahead ends, whatever it asks for.
func TestBodyThatIsAnother(t *testing.T) {
	m := filled(5)
	f := frame.New(m)
	f.Step(0, func(f *frame.Frame) { f.Load(0); f.Load(0) })
	f.Step(1, func(f *frame.Frame) { f.Swap(0, 5, 6); f.Store(0, 8); f.Load(0) })
	holds(t, m, 8)
	if !f.Step(2, func(f *frame.Frame) { f.Store(0, 9) }) {
		t.Error("a body that comes to its end is done")
	}
	stands(t, f, 2, true)
	holds(t, m, 8)
}

// R2: the same steps answer the same, whatever other frames there are.
func TestSameStepsAnswerTheSame(t *testing.T) {
	play := func(between func()) []int64 {
		m := filled(1, 2, 3)
		var seen []int64
		body := func(f *frame.Frame) {
			seen = nil
			v := int64(0)
			for i := range 30 {
				v = v*7 + f.Add(i%4, v)
				seen = append(seen, v, truth(f.Swap((i+1)%4, v, 1)))
			}
		}
		f := frame.New(m)
		for i := 0; !f.Step(i, body); i++ {
			between()
		}
		return append(seen, m.Words()...)
	}
	other := frame.New(word.New(3))
	alone := play(func() {})
	beside := play(func() {
		other.Step(9, func(f *frame.Frame) {
			for range 99 {
				f.Add(0, 3)
			}
		})
	})
	if !slices.Equal(alone, beside) {
		t.Errorf("%v, then %v", alone, beside)
	}
}

// R3: a frame works on the memory that it is given, and on no copy of it.
func TestFramesWorkOnTheirMemory(t *testing.T) {
	m, other := word.New(1), word.New(1)
	f := frame.New(m)
	m.Store(0, 6)
	var got int64
	body := func(f *frame.Frame) { got = f.Load(0); f.Store(0, got+1) }
	f.Step(0, body)
	f.Step(1, body)
	if got != 6 {
		t.Errorf("loaded %d", got)
	}
	holds(t, m, 7)
	holds(t, other, 0)
}
