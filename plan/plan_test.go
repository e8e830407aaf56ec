package plan_test

import (
	"fmt"
	"math"
	"reflect"
	"testing"

	"septum/api"
	"septum/plan"
)

// far are numbers that are far from all limits; some are within them in their lowest 8, 16 or 32 bits.
var far = []int{math.MaxInt, math.MaxInt - 1, math.MinInt, math.MinInt + 1, 1 << 8, 1<<8 + 1, 1 << 16, 1<<16 + 1,
	1 << 32, 1<<32 + 1, 1<<32 + 2, 1 << 62, -1 << 8, -1 << 16, -1 << 32, -1<<32 + 1, -2, -100}

// sizes are the least and the greatest Size of each kind; waits are those kinds of which Priority
// may be true.
var (
	sizes = [8][2]int{{0, 15}, {0, 0}, {1, 16}, {0, 0}, {1, 16}, {1, 16}, {1, 16}, {1, 16}}
	waits = [8]bool{2: true, 3: true, 4: true, 5: true}
)

// pool is the kind of objects that have blocks.
const pool = 4

// threads makes threads of the given priorities.
func threads(priorities ...int) []api.Thread {
	var l []api.Thread
	for _, p := range priorities {
		l = append(l, api.Thread{Priority: p})
	}
	return l
}

// kinds makes an object of each kind, by its number, with the least or the greatest Size.
func kinds(end int) []api.Object {
	var l []api.Object
	for kind := range 8 {
		l = append(l, api.Object{Kind: kind, Size: sizes[kind][end], Priority: waits[kind]})
	}
	return l
}

// pools makes pools of the given sizes.
func pools(blocks ...int) []api.Object {
	var l []api.Object
	for _, n := range blocks {
		l = append(l, api.Object{Kind: pool, Size: n})
	}
	return l
}

// programs makes a partition of three threads that have programs, with an object of each kind.
func programs() api.Part {
	p := api.Part{Threads: threads(3, 9, 3), Objects: kinds(1)}
	for i := range p.Threads {
		th := &p.Threads[i]
		th.Caps, th.Control = 0x91<<i&0xff, i == 1
		for n := range 3 {
			words := []int64{int64(i), int64(n), -1}
			th.Program = append(th.Program, api.Call{Kind: 18, Handle: 5, A: int64(n), B: 7, Words: words, Timeout: -1})
		}
	}
	return p
}

// greatest makes a partition in which there is as much of everything as may be.
func greatest() api.Part {
	p := api.Part{Threads: threads(15, 15, 15, 15, 15, 15), Objects: pools(16, 16, 16, 16, 16, 16, 16, 16)}
	for i := range p.Threads {
		p.Threads[i].Caps, p.Threads[i].Control = 0xff, true
		for range 40 {
			p.Threads[i].Program = append(p.Threads[i].Program, api.Call{Kind: 18, Words: []int64{1, 2, 3, 4}})
		}
	}
	return p
}

// rights are partitions with which nothing is wrong.
func rights() map[string]api.Part {
	return map[string]api.Part{
		"one thread":                  {Threads: threads(0)},
		"one thread, empty lists":     {Threads: []api.Thread{{Priority: 15, Program: []api.Call{}}}, Objects: []api.Object{}},
		"the chapter's example":       {Threads: threads(1, 5, 5)},
		"two threads":                 {Threads: threads(4, 3), Objects: pools(1)},
		"six threads of 0":            {Threads: threads(0, 0, 0, 0, 0, 0), Objects: pools(1, 16)},
		"six threads, no two alike":   {Threads: threads(3, 15, 0, 8, 14, 1), Objects: kinds(0)},
		"six threads, some alike":     {Threads: threads(7, 2, 7, 9, 2, 9), Objects: pools(2, 3, 4, 5, 6, 7, 8, 9)},
		"each kind, the least":        {Threads: threads(15, 0), Objects: kinds(0)},
		"each kind, the greatest":     {Threads: threads(6), Objects: kinds(1)},
		"a pool behind other objects": {Threads: threads(6, 6), Objects: append(kinds(1)[:3:3], pools(3)...)},
		"programs":                    programs(),
		"the greatest":                greatest(),
	}
}

// of answers the plan of a partition with which nothing is wrong.
func of(t *testing.T, part api.Part) plan.Plan {
	t.Helper()
	p, e := plan.Of(part)
	if e != api.OK {
		t.Fatalf("%+v: error %d, want none", part, int(e))
	}
	return p
}

// piece is the words that one thing of a plan has: from where on, and how many.
type piece struct {
	name  string
	at    int
	words int
}

// pieces answers the words of each thing, as the chapters say how many they are.
func pieces(p plan.Plan) []piece {
	l := []piece{
		{"Lock", p.Lock, 2}, {"IPI 0", p.IPI[0], 1}, {"IPI 1", p.IPI[1], 1},
		{"Current 0", p.Current[0], 1}, {"Current 1", p.Current[1], 1},
		{"Clock", p.Clock, 2}, {"Ready", p.Ready, 33}, {"Timers", p.Timers, 2}, {"Table", p.Table, len(p.Objects)},
	}
	for i, at := range p.Threads {
		l = append(l, piece{fmt.Sprint("thread ", i), at, 24})
	}
	for i, at := range p.Objects {
		l = append(l, piece{fmt.Sprint("object ", i), at, 24})
	}
	return l
}

// apart fails the test, unless the plan is one of part: it has as many threads and objects, no two
// things share a word, and all lies in the words 0 to Words - 1, which are at most 600.
func apart(t *testing.T, part api.Part, p plan.Plan) {
	t.Helper()
	if len(p.Threads) != len(part.Threads) || len(p.Objects) != len(part.Objects) {
		t.Fatalf("%d threads, %d objects, want %d and %d", len(p.Threads), len(p.Objects), len(part.Threads), len(part.Objects))
	}
	if p.Words < 1 || p.Words > 600 {
		t.Fatalf("%d words", p.Words)
	}
	owners := make([]string, p.Words)
	for _, thing := range pieces(p) {
		for a := thing.at; a < thing.at+thing.words; a++ {
			if a < 0 || a >= p.Words {
				t.Errorf("%s has the word %d of %d", thing.name, a, p.Words)
				continue
			}
			if owners[a] != "" {
				t.Errorf("%s and %s share the word %d", owners[a], thing.name, a)
			}
			owners[a] = thing.name
		}
	}
}

// Words: how many words a thread and an object have.
func TestConstants(t *testing.T) {
	if plan.ThreadWords != 24 || plan.ObjectWords != 24 {
		t.Error(plan.ThreadWords, plan.ObjectWords)
	}
}

// P12.1: plans of each number of threads with each number of objects, of each kind.
func TestPlaces(t *testing.T) {
	for n := 1; n <= 6; n++ {
		for k := range 9 {
			for kind := range 8 {
				part := api.Part{Threads: threads(15, 0, 7, 7, 3, 15)[:n]}
				for range k {
					part.Objects = append(part.Objects, api.Object{Kind: kind, Size: sizes[kind][1]})
				}
				apart(t, part, of(t, part))
			}
		}
	}
	for name, part := range rights() {
		t.Run(name, func(t *testing.T) { apart(t, part, of(t, part)) })
	}
}

// P12.1: Part is the partition: each field of each thing.
func TestPartOfPlan(t *testing.T) {
	for name, part := range rights() {
		if p := of(t, part); fmt.Sprint(p.Part) != fmt.Sprint(part) {
			t.Errorf("%s: %+v, want %+v", name, p.Part, part)
		}
	}
	part := api.Part{
		Threads: []api.Thread{{Priority: 1, Caps: 2, Control: true, Program: []api.Call{{Kind: 3, Handle: 4, A: 5, B: 6, Words: []int64{7, 8}, Timeout: 9}}}, {Priority: 10}},
		Objects: []api.Object{{Kind: 2, Size: 11, Priority: true}, {Kind: 7, Size: 12}},
	}
	want := "{[{1 2 true [{3 4 5 6 [7 8] 9}]} {10 0 false []}] [{2 11 true} {7 12 false}]}"
	if got := fmt.Sprint(of(t, part).Part); got != want {
		t.Errorf("%s, want %s", got, want)
	}
}

// P12.1: each priority, of each thread.
func TestPriorities(t *testing.T) {
	for i := range 6 {
		for priority := range 16 {
			part := greatest()
			part.Threads[i].Priority = priority
			apart(t, part, of(t, part))
		}
	}
}

// P12.1: a thread may use all objects that are there, or some, or none.
func TestCaps(t *testing.T) {
	for n := range 9 {
		for caps := range uint32(1) << n {
			part := api.Part{Threads: threads(1, 2, 3), Objects: kinds(1)[:n]}
			part.Threads[caps%3].Caps = caps
			of(t, part)
		}
	}
}

// P12.1: a program may have up to MaxProgram calls, whatever they are.
func TestPrograms(t *testing.T) {
	for n := range 41 {
		part := api.Part{Threads: threads(1, 2, 3)}
		part.Threads[n%3].Program = make([]api.Call, n)
		of(t, part)
	}
	for _, n := range append([]int{-1, 24}, far...) {
		part := programs()
		part.Threads[2].Program[1] = api.Call{Kind: n, Handle: n, A: int64(n), B: int64(n), Words: make([]int64, 99), Timeout: n}
		of(t, part)
	}
}

// P12.1: each kind of objects with each Size and Priority that it may have, as each object.
func TestObjects(t *testing.T) {
	for kind := range 8 {
		for size := sizes[kind][0]; size <= sizes[kind][1]; size++ {
			for place := range 8 {
				part := api.Part{Threads: threads(2, 2), Objects: kinds(place % 2)}
				part.Objects[place] = api.Object{Kind: kind, Size: size}
				apart(t, part, of(t, part))
				part.Objects[place].Priority = waits[kind]
				apart(t, part, of(t, part))
			}
		}
	}
}

// R2: one partition has one plan, whatever other plans were made between.
func TestOnePlan(t *testing.T) {
	plans := map[string]plan.Plan{}
	for range 3 {
		for name, part := range rights() {
			p := of(t, part)
			if was, is := plans[name]; is && !reflect.DeepEqual(was, p) {
				t.Errorf("%s: %+v, and again %+v", name, was, p)
			}
			plans[name] = p
			plan.Boot(p)
			plan.Of(api.Part{})
		}
	}
}
