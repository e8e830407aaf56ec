package table_test

import (
	"math"
	"slices"
	"testing"

	"septum/api"
	"septum/frame"
	"septum/table"
	"septum/word"
)

// sizes are some that a table may have.
var sizes = []int{1, 2, 3, 7, 8}

// noSizes are some of which a table has no slots.
var noSizes = []int{0, -1, -2, -8, -9, -256, -1 << 32, 1<<32 + 3, 9, 10, 16, 17, 255, 256, 257, 264, 4000,
	math.MaxInt, math.MaxInt - 1, math.MaxInt - 7, math.MinInt, math.MinInt + 1, math.MinInt + 3}

// noSlots answers some that a table of n slots lacks.
func noSlots(n int) []int {
	return []int{-1, -2, -n, -n - 1, n, n + 1, 2 * n, 8, 9, 255, 256, 256 + n - 1, -255, -256, 3999, 4000,
		-1 << 32, 1 << 32, 1<<32 + n - 1, math.MaxInt, math.MaxInt - 1, math.MinInt, math.MinInt + 1, math.MinInt + n - 1}
}

// addresses are some of a memory of 20 words, and some that are none.
var addresses = []int{0, 1, 7, 11, 12, 13, 18, 19, 20, 21, 3999, 4000, -1, -2, -3, -7, -8, -9, -4000, 1 << 32,
	math.MaxInt, math.MaxInt - 1, math.MaxInt - 6, math.MaxInt - 7, math.MinInt, math.MinInt + 1}

// ages are the generations of a table of 3 slots, in some states: 0 is what a frame that is off
// answers, too.
var ages = [][]int64{{0, 0, 0}, {1, 0, 0}, {0, 1, 0}, {0, 0, 1}, {2, 1, 3}, {0, 300, 1 << 40}, {-1, math.MaxInt64, math.MinInt64}}

// three makes a memory with a table of 3 slots at 1 that has these generations.
func three(age []int64) *word.Mem {
	return filled(-5, age[0], age[1], age[2], -6)
}

// aCall is a call of a table of 3 slots at 1, what it should answer, and which generations should
// stand behind it.
type aCall struct {
	name   string
	body   func(a *answer) frame.Body
	want   answer
	behind []int64
}

// calls answers all calls that do an access of a table of 3 slots at 1 with these generations.
func calls(age []int64) []aCall {
	s := slots{at: 1, age: age}
	var list []aCall
	for i := range 3 {
		more := slices.Clone(age)
		more[i]++
		list = append(list,
			aCall{"Handle", func(a *answer) frame.Body { return handles(1, 3, i, a) }, answer{s.handle(i), true}, age},
			aCall{"Next", func(a *answer) frame.Body { return nexts(1, 3, i, a) }, answer{ok: true}, more})
		for _, h := range []int64{int64(i), s.handle(i), s.handle(i) + 256} {
			if h < 0 {
				continue
			}
			list = append(list,
				aCall{"Check", func(a *answer) frame.Body { return checks(1, 3, h, a) }, s.find(h), age})
		}
	}
	return list
}

// P10.1: each call in each state: if the frame goes off, 0, false, ahead of the step that does the
// call's last access; and then what it should. What is done, is done once.
func TestAnswersGoOff(t *testing.T) {
	for _, age := range ages {
		for _, c := range calls(age) {
			m := three(age)
			a := answer{-77, true}
			body := func(f *frame.Frame) {
				f.Load(0) // so that the first step has none left
				c.body(&a)(f)
			}
			f := frame.New(m)
			for now := 0; !f.Step(now, body); now++ {
				if a != none {
					t.Errorf("%s of %v, step %d: %v", c.name, age, now, a)
				}
				if now == 0 {
					holds(t, m, three(age).Words())
				}
				if now > most {
					t.Fatalf("%s is not done", c.name)
				}
			}
			if a != c.want {
				t.Errorf("%s of %v: %v, want %v", c.name, age, a, c.want)
			}
			if f.Steps() < 2 || f.Steps() > most+1 {
				t.Errorf("%s of %v: %d accesses", c.name, age, f.Steps())
			}
			holds(t, m, three(c.behind).Words())
		}
	}
}

// P10.1: each call behind another one, and ahead of one: the frame goes off in the midst of each of
// them, and in the end all have answered as they would alone.
func TestCallsBehindEachOther(t *testing.T) {
	for _, age := range ages {
		for _, c := range calls(age) {
			m := three(age)
			ahead, a, behind := none, none, none
			body := func(f *frame.Frame) {
				handles(1, 3, 2, &ahead)(f)
				c.body(&a)(f)
				handles(1, 3, 2, &behind)(f)
			}
			if !frame.Run(m, body, 3*most) {
				t.Fatalf("%s of %v is not done", c.name, age)
			}
			want, wantBehind := answer{slots{age: age}.handle(2), true}, answer{slots{age: c.behind}.handle(2), true}
			if ahead != want || a != c.want || behind != wantBehind {
				t.Errorf("%s of %v: %v, %v, %v", c.name, age, ahead, a, behind)
			}
			holds(t, m, three(c.behind).Words())
		}
	}
}

// P10.1: many Nexts of one body, which begins anew with each access: each is done once.
func TestBodyOfManyNexts(t *testing.T) {
	m := three([]int64{0, 0, 0})
	var seen []answer
	body := func(f *frame.Frame) {
		seen = nil
		for _, i := range []int{2, 0, 2, 3, 2, -1, 0} {
			a := none
			nexts(1, 3, i, &a)(f)
			seen = append(seen, a)
			handles(1, 3, 2, &a)(f)
			seen = append(seen, a)
		}
	}
	if !frame.Run(m, body, 14*most) {
		t.Fatal("the body is not done")
	}
	yes := answer{ok: true}
	want := []answer{yes, {258, true}, yes, {258, true}, yes, {514, true}, none, {514, true},
		yes, {770, true}, none, {770, true}, yes, {770, true}}
	if !slices.Equal(seen, want) {
		t.Errorf("%v, want %v", seen, want)
	}
	holds(t, m, []int64{-5, 2, 0, 3, -6})
}

// P10.1 with P2.3: what a call answers is what its own access says: here of a slot whose Next is
// done between that call's begin and its access.
func TestWhatItsOwnAccessSays(t *testing.T) {
	bodies := []struct {
		name string
		body func(a *answer) frame.Body
		want answer
	}{
		{"Handle", func(a *answer) frame.Body { return handles(1, 3, 1, a) }, answer{257, true}},
		{"Check of the old one", func(a *answer) frame.Body { return checks(1, 3, 1, a) }, none},
		{"Check of the fresh one", func(a *answer) frame.Body { return checks(1, 3, 257, a) }, answer{1, true}},
		{"Next", func(a *answer) frame.Body { return nexts(1, 3, 1, a) }, answer{ok: true}},
	}
	for _, b := range bodies {
		m := three([]int64{0, 0, 0})
		a := answer{}
		body := func(f *frame.Frame) { f.Load(0); b.body(&a)(f) }
		f := frame.New(m)
		f.Step(0, body)
		next(t, m, 1, 3, 1)
		for now := 1; !f.Step(now, body) && now < most; now++ {
		}
		if a != b.want {
			t.Errorf("%s behind a Next: %v", b.name, a)
		}
		want := []int64{-5, 0, 1, 0, -6}
		if b.name == "Next" {
			want[2] = 2
		}
		holds(t, m, want)
	}
}

// countAccesses fails the test, unless a Check does just so many accesses, and changes nothing.
func countAccesses(t *testing.T, m *word.Mem, at, n int, h int64, want int) {
	t.Helper()
	before, a := m.Words(), none
	if did := play(t, m, checks(at, n, h, &a)); did != want {
		t.Errorf("Check of %d, %d slots: %d accesses, want %d", h, n, did, want)
	}
	holds(t, m, before)
}

// P10.1: a Check does one access, if h modulo 256 is a slot's number, h being 0 or above, whether
// h is that slot's handle or not; else none.
func TestAccessesOfACheck(t *testing.T) {
	for n := 1; n <= api.MaxObjects; n++ {
		m := filled(append(make([]int64, n), strange(3)...)...)
		for h := int64(-700); h < 1300; h++ {
			want := 0
			if h >= 0 && h%256 < int64(n) {
				want = 1
			}
			countAccesses(t, m, 0, n, h, want)
		}
		for _, high := range []int64{1 << 31, 1 << 32, 1 << 40, 1 << 62, math.MaxInt64 - 255} {
			countAccesses(t, m, 0, n, high, 1)
			countAccesses(t, m, 0, n, high+int64(n-1), 1)
			countAccesses(t, m, 0, n, high+int64(n), 0)
			countAccesses(t, m, 0, n, high+255, 0)
			countAccesses(t, m, 0, n, high-1, 0)
			countAccesses(t, m, 0, n, -high, 0)
			countAccesses(t, m, 0, n, -high+int64(n-1), 0)
			countAccesses(t, m, 0, n, high+math.MinInt64, 0)
		}
	}
}

// P10.1: a Check of a table that has no slots does no access, whatever h is; one of an address that
// is none does as many as others.
func TestAccessesOfACheckOfNoTable(t *testing.T) {
	for _, h := range []int64{0, 1, 2, 7, 8, 255, 256, 257, 263, 1 << 40, math.MaxInt64, -1, -256, math.MinInt64} {
		for _, n := range noSizes {
			countAccesses(t, filled(0, 0, 0), 0, n, h, 0)
		}
	}
	for _, at := range []int{3, -1, -2, 4000, math.MaxInt, math.MinInt} {
		countAccesses(t, filled(0, 0, 0), at, 1, 0, 1)
		countAccesses(t, nil, at, 2, 257, 1)
		countAccesses(t, nil, at, 2, 2, 0)
		countAccesses(t, nil, at, 2, -256, 0)
	}
}

// Words: a call of this layer does at most 60 accesses, of the greatest table, in any state. (play
// asks that of every call; here it is told of which calls it was asked.)
func TestMostAccesses(t *testing.T) {
	const n = api.MaxObjects
	for _, age := range []int64{0, 1, 1 << 40, -1, math.MaxInt64, math.MinInt64} {
		for i := range n {
			a := none
			for name, body := range map[string]frame.Body{
				"Handle": handles(0, n, i, &a), "Check": checks(0, n, int64(i)+256*(age&7), &a), "Next": nexts(0, n, i, &a),
			} {
				m := filled(slices.Repeat([]int64{age}, n)...)
				if did := play(t, m, body); did < 1 || did > most {
					t.Errorf("%s of %d, generation %d: %d accesses", name, i, age, did)
				}
			}
		}
	}
}

// P10.1: Handle and Next of a slot that is none: 0, false, and nothing has changed; so Check of a
// number that tells none, which is no slot's handle, whatever stands in the words.
func TestSlotsThatAreNone(t *testing.T) {
	for n := 1; n <= api.MaxObjects; n++ {
		for _, age := range []int64{0, 1, -1, 1 << 56} {
			words := slices.Repeat([]int64{age}, 20)
			m := filled(words...)
			for _, i := range noSlots(n) {
				if a := handle(t, m, 9, n, i); a != none {
					t.Errorf("%d slots: the handle of %d is %v", n, i, a)
				}
				if next(t, m, 9, n, i) {
					t.Errorf("%d slots: Next of %d: true", n, i)
				}
				holds(t, m, words)
			}
			for _, h := range []int64{int64(n), 8, 255, 256 + int64(n), 511, -1, -256, -256 + int64(n), -257,
				math.MaxInt64, math.MinInt64, math.MinInt64 + int64(n)} {
				if a := check(t, m, 9, n, h); a != none {
					t.Errorf("%d slots: Check of %d: %v", n, h, a)
				}
				holds(t, m, words)
			}
		}
	}
}

// P10.1: handles below 0 tell no slot, even if a slot's handle went round and is that one now.
func TestHandlesBelowZero(t *testing.T) {
	for n := 1; n <= api.MaxObjects; n++ {
		for _, age := range []int64{-1, -2, 1 << 55, 1<<56 - 1, math.MaxInt64} {
			m := filled(slices.Repeat([]int64{age}, n)...)
			for i := range n {
				a := handle(t, m, 0, n, i)
				if !a.ok || a.v >= 0 {
					t.Errorf("generation %d of %d: %v", age, i, a)
				}
				if b := check(t, m, 0, n, a.v); b != none {
					t.Errorf("Check of %d: %v", a.v, b)
				}
			}
		}
	}
}

// nothing fails the test, unless every call answers 0, false.
func nothing(t *testing.T, f *frame.Frame, at, n, i int) {
	t.Helper()
	if h, ok := table.Handle(f, at, n, i); h != 0 || ok {
		t.Errorf("Handle of %d, %d, %d: %d, %t", at, n, i, h, ok)
	}
	if table.Next(f, at, n, i) {
		t.Errorf("Next of %d, %d, %d: true", at, n, i)
	}
	for _, h := range []int64{int64(i), int64(i) + 256, 256 * int64(i), -int64(i)} {
		if i, ok := table.Check(f, at, n, h); i != 0 || ok {
			t.Errorf("Check of %d, %d, %d: %d, %t", at, n, h, i, ok)
		}
	}
}

// P10.1: tables of no slots, of fewer than none, and of more than MaxObjects: 0, false, of whatever
// slot, and nothing has changed.
func TestSizesThatAreNone(t *testing.T) {
	for _, v := range []int64{0, 1, -1, -5} {
		for _, n := range noSizes {
			words := slices.Repeat([]int64{v}, 40)
			m := filled(words...)
			body := func(f *frame.Frame) {
				for _, i := range []int{0, 1, 2, 7, 8, 9, 16, 255, 256, -1, n - 1, n, n + 1, math.MaxInt, math.MinInt} {
					nothing(t, f, 4, n, i)
				}
			}
			play(t, m, body)
			holds(t, m, words)
		}
	}
}

// P10.1: calls behind the step's access: they go off, answer 0, false, and do nothing.
func TestFrameIsOff(t *testing.T) {
	for _, age := range ages {
		list := append(calls(age), aCall{name: "all", body: func(*answer) frame.Body {
			return func(f *frame.Frame) {
				for i := range 3 {
					nothing(t, f, 1, 3, i)
				}
			}
		}})
		for _, c := range list {
			m := three(age)
			f, off, a := frame.New(m), false, none
			done := f.Step(0, func(f *frame.Frame) {
				f.Load(0)
				c.body(&a)(f)
				off = f.Off()
			})
			if done || !off || f.Steps() != 1 || a != none {
				t.Errorf("%s: done %t, off %t, %d accesses, %v", c.name, done, off, f.Steps(), a)
			}
			holds(t, m, three(age).Words())
		}
	}
}

// R1, P10.1 with P2.1: a nil frame, and one out of a step, are off: 0, false, and nothing is done.
func TestWithoutAStep(t *testing.T) {
	words := make([]int64, 20)
	m := filled(words...)
	fresh, over, done := frame.New(m), frame.New(m), frame.New(m)
	over.Step(0, func(f *frame.Frame) { f.Load(0); f.Load(0) })
	done.Step(0, func(f *frame.Frame) { f.Load(0) })
	for _, f := range []*frame.Frame{nil, fresh, over, done, new(frame.Frame)} {
		steps := f.Steps()
		for _, n := range append(slices.Clone(sizes), noSizes...) {
			for _, at := range addresses {
				for _, i := range []int{0, 1, 2, 7, 8, -1, 256, math.MaxInt, math.MinInt} {
					nothing(t, f, at, n, i)
				}
			}
		}
		if f.Steps() != steps {
			t.Errorf("%d accesses", f.Steps()-steps)
		}
		holds(t, m, words)
	}
}

// R1, P10.1 with P2.1: of an address that is none a word is 0, and nothing is written: the slots of
// a table that isn't there have their first handles, and a Next leaves these as they are.
func TestAddressThatIsNone(t *testing.T) {
	for _, m := range []*word.Mem{nil, word.New(0), new(word.Mem)} {
		for _, at := range addresses {
			for _, n := range sizes {
				for i := range n {
					if a := handle(t, m, at, n, i); a != (answer{int64(i), true}) {
						t.Errorf("the handle of %d at %d is %v", i, at, a)
					}
					if !next(t, m, at, n, i) {
						t.Errorf("Next of %d at %d: false", i, at)
					}
					if a := check(t, m, at, n, int64(i)); a != (answer{int64(i), true}) {
						t.Errorf("Check of %d at %d: %v", i, at, a)
					}
					if a := check(t, m, at, n, int64(i)+256); a != none {
						t.Errorf("Check of %d at %d: %v", i+256, at, a)
					}
				}
			}
		}
	}
}

// P10.1 with P2.1: a table that lies half beyond the memory's end, or half ahead of its begin, or
// far off: of the words that aren't there each is 0, and what is there stands as it should.
func TestTableBeyondTheEnds(t *testing.T) {
	for _, at := range addresses {
		for _, n := range sizes {
			words := slices.Repeat([]int64{5}, 20)
			m := filled(words...)
			for i := range n {
				age := int64(0)
				if at+i >= 0 && at+i < 20 {
					age = 5
				}
				h := int64(i) + 256*age
				if a := handle(t, m, at, n, i); a != (answer{h, true}) {
					t.Errorf("the handle of %d at %d is %v", i, at, a)
				}
				if a := check(t, m, at, n, h); a != (answer{int64(i), true}) {
					t.Errorf("Check of %d at %d: %v", h, at, a)
				}
				if !next(t, m, at, n, i) {
					t.Errorf("Next of %d at %d: false", i, at)
				}
				if age == 5 {
					words[at+i]++
				}
				holds(t, m, words)
			}
		}
	}
}

// R1: words that no calls can have left there, in every mixture of two slots: each call ends, and
// tells just what the words say.
func TestWordsThatNoCallsLeave(t *testing.T) {
	odd := []int64{0, 1, -1, -256, 255, 256, 1 << 55, -1 << 55, 1 << 56, -1<<56 + 1, math.MaxInt64, math.MinInt64}
	for _, one := range odd {
		for _, two := range odd {
			s := &model{mem: filled(-1000, one, two, -1003), tables: []slots{{at: 1, age: []int64{one, two}}}}
			for _, h := range odd {
				s.find(t, 0, h)
				s.find(t, 0, h+1)
			}
			for _, i := range []int{0, 1, 1, 0, 2, -1} {
				s.askAll(t, 0)
				s.next(t, 0, i)
				s.stands(t, one, two, i)
			}
		}
	}
}

// P10.1 with P2.3: two frames that go on in turns: since a Next is one access, each one counts, in
// whatever order, and who asks behind its own two sees them.
func TestTwoFramesInTurns(t *testing.T) {
	for order := range 1 << 8 {
		m := three([]int64{0, 0, 0})
		frames := [2]*frame.Frame{frame.New(m), frame.New(m)}
		var asked [2]answer
		bodies := [2]frame.Body{}
		for who := range bodies {
			bodies[who] = func(f *frame.Frame) {
				for range 2 {
					table.Next(f, 1, 3, 1)
				}
				handles(1, 3, 1, &asked[who])(f)
			}
		}
		for now := range 8 {
			who := order >> now & 1
			frames[who].Step(now, bodies[who])
		}
		for now := 8; now < 3*most; now++ {
			frames[0].Step(now, bodies[0])
			frames[1].Step(now, bodies[1])
		}
		holds(t, m, []int64{-5, 0, 4, 0, -6})
		for who, a := range asked {
			if !a.ok || a.v%256 != 1 || a.v/256 < 2 || a.v/256 > 4 {
				t.Errorf("order %b: %d has the handle %v", order, who, a)
			}
		}
	}
}
