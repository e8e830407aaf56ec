package thread_test

import (
	"math"
	"slices"
	"testing"

	"septum/api"
	"septum/frame"
	"septum/plan"
	"septum/thread"
	"septum/word"
)

// P13.1: Set and then Get of each field of each thread, with values of each kind.
func TestSetAndGet(t *testing.T) {
	for name, p := range plans(t) {
		m := plan.Boot(p)
		for i := range p.Threads {
			for field := range thread.Fields {
				for _, v := range values {
					set(t, m, p, i, field, v)
					if got, _ := get(t, m, p, i, field); got != v {
						t.Errorf("%s: %s of %d is %d, want %d", name, names[field], i, got, v)
					}
				}
			}
		}
	}
}

// P13.1: a Set changes one word of the memory, which is the thread's own and none of its nodes', and
// no other field of any thread; no two fields share a word.
func TestSetChangesOneWord(t *testing.T) {
	for name, p := range plans(t) {
		m := filled(p)
		owners := map[int]string{}
		for i, at := range p.Threads {
			for field := range thread.Fields {
				words, all := m.Words(), fields(t, m, p)
				set(t, m, p, i, field, int64(1000*i+field))
				changed := changes(words, m.Words())
				if len(changed) != 1 || changed[0] < at+5 || changed[0] >= at+24 {
					t.Fatalf("%s: %s of %d at %d: the words %v are changed", name, names[field], i, at, changed)
				}
				if was, is := owners[changed[0]]; is {
					t.Errorf("%s: %s of %d stands at %d, as %s does", name, names[field], i, changed[0], was)
				}
				owners[changed[0]] = names[field]
				all[i][field] = int64(1000*i + field)
				if got := fields(t, m, p); !slices.Equal(got, all) {
					t.Errorf("%s: %s of %d is set: %v, want %v", name, names[field], i, got, all)
				}
			}
		}
		if len(owners) != 19*len(p.Threads) {
			t.Errorf("%s: %d words of fields", name, len(owners))
		}
	}
}

// P13.1: all fields of all threads hold words of their own at once, whichever is set last.
func TestAllFieldsAtOnce(t *testing.T) {
	for name, p := range plans(t) {
		for _, down := range []bool{false, true} {
			m := plan.Boot(p)
			all := make([][19]int64, len(p.Threads))
			for n := range 19 * len(p.Threads) {
				if down {
					n = 19*len(p.Threads) - 1 - n
				}
				all[n/19][n%19] = int64(-5*n) - 1
				set(t, m, p, n/19, n%19, int64(-5*n)-1)
			}
			if got := fields(t, m, p); !slices.Equal(got, all) {
				t.Errorf("%s: %v, want %v", name, got, all)
			}
		}
	}
}

// P13.1: Data and Stack, word by word, from the first to the last.
func TestDataAndStack(t *testing.T) {
	p := of(t, api.Part{Threads: threads(1, 5, 5)})
	m := plan.Boot(p)
	for n := range api.MaxChunk {
		set(t, m, p, 1, thread.Data+n, int64(40+n))
	}
	for n := range api.MaxNest {
		set(t, m, p, 1, thread.Stack+n, int64(70+n))
	}
	all := fields(t, m, p)
	if data := all[1][thread.Data:thread.Stack]; !slices.Equal(data, []int64{40, 41, 42, 43}) {
		t.Errorf("DATA is %v", data)
	}
	if stack := all[1][thread.Stack:thread.Fields]; !slices.Equal(stack, []int64{70, 71, 72}) {
		t.Errorf("STACK is %v", stack)
	}
	if rest := all[1][:thread.Data]; !slices.Equal(rest, []int64{0, 5, 5, 0, 0, 0, 0, 0, 0, 0, 0, 0}) {
		t.Errorf("the other fields are %v", rest)
	}
	if all[0] != ([19]int64{1: 1, 2: 1}) || all[2] != ([19]int64{1: 5, 2: 5}) {
		t.Errorf("the other threads are %v and %v", all[0], all[2])
	}
}

// P13.1: a Get, and a Set, does one access, also where the value is the one that stands there.
func TestOneAccess(t *testing.T) {
	for name, p := range plans(t) {
		m := plan.Boot(p)
		for i := range p.Threads {
			for field := range thread.Fields {
				was, steps := get(t, m, p, i, field)
				if steps != 1 {
					t.Errorf("%s: Get of %s of %d: %d accesses", name, names[field], i, steps)
				}
				for _, v := range []int64{was, 0, math.MaxInt64, math.MinInt64, math.MinInt64} {
					if steps := set(t, m, p, i, field, v); steps != 1 {
						t.Errorf("%s: Set of %s of %d to %d: %d accesses", name, names[field], i, v, steps)
					}
				}
			}
		}
	}
}

// P13.1: Node, Timer, Of and OfTimer need no frame: with those that do, a body of so many Gets and
// Sets has as many steps.
func TestStepsOfABody(t *testing.T) {
	p := of(t, api.Part{Threads: threads(1, 2)})
	m := plan.Boot(p)
	body := func(f *frame.Frame) {
		for field := range thread.Fields {
			thread.Set(f, p, 0, field, thread.Get(f, p, 1, field)+1)
		}
	}
	if frame.Run(m, body, 37) {
		t.Error("19 Gets and 19 Sets are done in 37 steps")
	}
	m = plan.Boot(p)
	if !frame.Run(m, body, 38) {
		t.Error("19 Gets and 19 Sets aren't done in 38 steps")
	}
	want := [19]int64{1, 3, 3, 1, 1, 1, 1, 1, 1, 1, 1, 1, 1, 1, 1, 1, 1, 1, 1}
	if got := fields(t, m, p)[0]; got != want {
		t.Errorf("%v, want %v", got, want)
	}
}

// P13.1: Get is a load of what stands there now, Set a store: bodies whose steps are taken in turns
// see one another's words.
func TestInTurns(t *testing.T) {
	p := of(t, api.Part{Threads: threads(1, 2)})
	m := plan.Boot(p)
	var seen []int64
	reads := func(f *frame.Frame) {
		seen = []int64{thread.Get(f, p, 1, thread.Code), thread.Get(f, p, 1, thread.Code), thread.Get(f, p, 1, thread.Code)}
	}
	writes := func(f *frame.Frame) {
		thread.Set(f, p, 1, thread.Code, 11)
		thread.Set(f, p, 1, thread.Code, 12)
	}
	one, two := frame.New(m), frame.New(m)
	for now := range 3 {
		one.Step(2*now, reads)
		two.Step(2*now+1, writes)
	}
	if !slices.Equal(seen, []int64{0, 11, 12}) || !one.Done() || !two.Done() {
		t.Errorf("seen were %v", seen)
	}
}

// P13.1: an access of a frame that is off isn't done, and answers 0; so of one of which no step is
// underway, of a frame without a memory, and of a nil one.
func TestNoAccess(t *testing.T) {
	p := of(t, api.Part{Threads: threads(6, 5)})
	m := plan.Boot(p)
	words := m.Words()
	var v int64
	f := frame.New(m)
	f.Step(0, func(f *frame.Frame) {
		f.Load(p.Lock)
		thread.Set(f, p, 1, thread.Base, 9)
		v = thread.Get(f, p, 1, thread.Base)
	})
	if v != 0 || f.Steps() != 1 || f.Done() || !slices.Equal(m.Words(), words) {
		t.Errorf("off: %d, %d accesses", v, f.Steps())
	}
	thread.Set(f, p, 1, thread.Base, 9)
	if v := thread.Get(f, p, 1, thread.Base); v != 0 || f.Steps() != 1 || !slices.Equal(m.Words(), words) {
		t.Errorf("no step: %d, %d accesses", v, f.Steps())
	}
	thread.Set(nil, p, 1, thread.Base, 9)
	if v := thread.Get(nil, p, 1, thread.Base); v != 0 || !slices.Equal(m.Words(), words) {
		t.Errorf("a nil frame: %d", v)
	}
	var none *word.Mem
	set(t, none, p, 1, thread.Base, 9)
	if v, steps := get(t, none, p, 1, thread.Base); v != 0 || steps != 1 {
		t.Errorf("a nil memory: %d, %d accesses", v, steps)
	}
}

// P13.1: memories of one plan have fields of their own; and so do plans that differ.
func TestMemoriesApart(t *testing.T) {
	p, q := of(t, api.Part{Threads: threads(1)}), of(t, api.Part{Threads: threads(2, 3, 4), Objects: objects()})
	first, second, third := plan.Boot(p), plan.Boot(p), plan.Boot(q)
	for field := range thread.Fields {
		set(t, first, p, 0, field, int64(100+field))
		set(t, third, q, 0, field, int64(300+field))
		if v, _ := get(t, first, p, 0, field); v != int64(100+field) {
			t.Errorf("%s of the first memory is %d", names[field], v)
		}
	}
	if got := fields(t, second, p)[0]; got != ([19]int64{1: 1, 2: 1}) {
		t.Errorf("the second memory has %v", got)
	}
}
