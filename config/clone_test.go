package config_test

import (
	"fmt"
	"reflect"
	"slices"
	"testing"

	"septum/api"
	"septum/config"
)

// roomy answers a list with the same elements, and with spare room that holds other ones.
func roomy[E any](l []E, other E) []E {
	return append(slices.Clip(l), other, other)[:len(l)]
}

// spacious makes a configuration with which nothing is wrong, of which each list has spare room.
// What stands in the spare room would be right as well, and has lists of its own.
func spacious() api.Config {
	c := ringOf(3)
	for i := range c.Parts {
		p := &c.Parts[i]
		for k := range p.Threads {
			th := &p.Threads[k]
			th.Program = []api.Call{{Kind: 18, Handle: 5}, {Kind: 18, Handle: 261, Timeout: -1}}
			for n := range th.Program {
				th.Program[n].Words = roomy([]int64{int64(n), 5, 6}, 77)
			}
			th.Program = roomy(th.Program, api.Call{Kind: 19, Words: []int64{71, 72}})
		}
		p.Threads = roomy(p.Threads, api.Thread{Priority: 9, Caps: 3, Program: []api.Call{{Kind: 7, Words: []int64{73}}}})
		p.Objects = roomy(p.Objects[:8:8], api.Object{Kind: 2, Size: 11})
	}
	c.Parts = roomy(c.Parts, api.Part{Threads: []api.Thread{{Priority: 8}}, Objects: []api.Object{{Kind: 3}}})
	c.Windows = roomy(c.Windows, api.Window{Part: 1, Ticks: 44})
	c.Channels = roomy(c.Channels, api.Channel{From: 1, Out: 2, To: 3, In: 4})
	return c
}

// stretched answers a copy of a list, its spare room among the elements.
func stretched[E any](l []E) []E {
	return append([]E{}, l[:cap(l)]...)
}

// whole answers a copy of c in which all lists are stretched, those in spare room, too.
func whole(c api.Config) api.Config {
	c = api.Config{Parts: stretched(c.Parts), Windows: stretched(c.Windows), Channels: stretched(c.Channels)}
	for i := range c.Parts {
		p := &c.Parts[i]
		p.Threads, p.Objects = stretched(p.Threads), stretched(p.Objects)
		for k := range p.Threads {
			th := &p.Threads[k]
			th.Program = stretched(th.Program)
			for n := range th.Program {
				th.Program[n].Words = stretched(th.Program[n].Words)
			}
		}
	}
	return c
}

// fill writes an element into all of a list, its spare room, too.
func fill[E any](l []E, e E) {
	for i := range l[:cap(l)] {
		l[:cap(l)][i] = e
	}
}

// writers answers for each list of c, by its name, what writes into all of it.
func writers(c api.Config) map[string]func() {
	all := map[string]func(){
		"Parts":    func() { fill(c.Parts, api.Part{Threads: make([]api.Thread, 5)}) },
		"Windows":  func() { fill(c.Windows, api.Window{Part: 91, Ticks: 92}) },
		"Channels": func() { fill(c.Channels, api.Channel{From: 93, Out: 94, To: 95, In: 96}) },
	}
	for i, p := range c.Parts {
		at := fmt.Sprint("Parts ", i)
		all[at+", Threads"] = func() { fill(p.Threads, api.Thread{Priority: 97, Caps: 98, Control: true}) }
		all[at+", Objects"] = func() { fill(p.Objects, api.Object{Kind: 99, Size: 100, Priority: true}) }
		for k, th := range p.Threads {
			at := fmt.Sprint(at, ", Threads ", k)
			all[at+", Program"] = func() { fill(th.Program, api.Call{Kind: 101, Handle: 102, A: 103, B: 104, Timeout: 105}) }
			for n, call := range th.Program {
				all[fmt.Sprint(at, ", Program ", n, ", Words")] = func() { fill(call.Words, 106) }
			}
		}
	}
	return all
}

// P11.2: a clone is the same; lists of none stay such.
func TestCloneIsTheSame(t *testing.T) {
	all := rights()
	all["nothing"] = api.Config{}
	all["empty lists"] = api.Config{Parts: []api.Part{}, Windows: []api.Window{}, Channels: []api.Channel{}}
	all["spare room"] = spacious()
	for name, c := range all {
		d := config.Clone(c)
		if !reflect.DeepEqual(c, d) {
			t.Errorf("%s: %+v, want %+v", name, d, c)
		}
		n, e := config.Valid(c)
		if m, f := config.Valid(d); n != m || e != f {
			t.Errorf("%s: %d, %d, and of the clone %d, %d", name, n, e, m, f)
		}
	}
}

// P11.2: each field of each thing is cloned.
func TestCloneOfEachField(t *testing.T) {
	c := api.Config{
		Parts: []api.Part{{
			Threads: []api.Thread{{Priority: 1, Caps: 2, Control: true, Program: []api.Call{{Kind: 3, Handle: 4, A: 5, B: 6, Words: []int64{7, 8}, Timeout: 9}}}},
			Objects: []api.Object{{Kind: 10, Size: 11, Priority: true}},
		}},
		Windows:  []api.Window{{Part: 12, Ticks: 13}},
		Channels: []api.Channel{{From: 14, Out: 15, To: 16, In: 17}},
	}
	want := "{[{[{1 2 true [{3 4 5 6 [7 8] 9}]}] [{10 11 true}]}] [{12 13}] [{14 15 16 17}]}"
	if got := fmt.Sprint(config.Clone(c)); got != want {
		t.Errorf("%s, want %s", got, want)
	}
}

// P11.2: a configuration with which something is wrong has a clone, too.
func TestCloneOfWrongOnes(t *testing.T) {
	for _, a := range turns() {
		c := greatest()
		a.do(&c)
		if d := config.Clone(c); !reflect.DeepEqual(c, d) {
			t.Errorf("%s: %+v, want %+v", a.name, d, c)
		}
	}
	for _, n := range append([]int{-1, 0}, far...) {
		c := api.Config{Parts: make([]api.Part, 300), Windows: []api.Window{{Part: n, Ticks: n}}, Channels: []api.Channel{{From: n, Out: n, To: n, In: n}}}
		c.Parts[299] = api.Part{Threads: []api.Thread{{Priority: n, Program: make([]api.Call, 300)}}, Objects: []api.Object{{Kind: n, Size: n}}}
		c.Parts[299].Threads[0].Program[299] = api.Call{Kind: n, Handle: n, A: int64(n), B: int64(n), Words: make([]int64, 300), Timeout: n}
		if d := config.Clone(c); !reflect.DeepEqual(c, d) {
			t.Errorf("%d: the clone is another one", n)
		}
	}
}

// P11.2, R3: who writes into a list of the clone, and into its spare room, changes nothing of what
// was cloned, of its spare room neither.
func TestWriteTheClone(t *testing.T) {
	for name := range writers(spacious()) {
		c := spacious()
		d := config.Clone(c)
		before := whole(c)
		writers(d)[name]()
		if !reflect.DeepEqual(whole(c), before) {
			t.Errorf("%s of the clone is written: what was cloned is %+v", name, whole(c))
		}
		if reflect.DeepEqual(d, c) {
			t.Errorf("%s of the clone isn't there", name)
		}
	}
}

// P11.2, R3: and the other way round: the clone is not kept in the memory of what was cloned.
func TestWriteWhatWasCloned(t *testing.T) {
	for name := range writers(spacious()) {
		c := spacious()
		d := config.Clone(c)
		before := whole(d)
		writers(c)[name]()
		if !reflect.DeepEqual(whole(d), before) {
			t.Errorf("%s is written: the clone is %+v", name, whole(d))
		}
	}
}

// P11.2, R3: no two lists of one clone share any memory, even where those that were cloned do; nor
// do two clones of one configuration.
func TestClonesOfSharedLists(t *testing.T) {
	words := []int64{1, 2, 3, 4}
	program := []api.Call{{Words: words[:2]}, {Words: words[2:]}, {Words: words}, {Words: words[:0]}}
	threads := []api.Thread{{Program: program[:2]}, {Program: program[2:]}, {Program: program}}
	objects := []api.Object{{Size: 1}, {Size: 2}, {Size: 3}}
	part := api.Part{Threads: threads, Objects: objects}
	c := api.Config{Parts: []api.Part{part, part, {Threads: threads[:1], Objects: objects[:1]}, {Threads: threads[1:], Objects: objects[1:]}}}
	before := whole(c)
	for name := range writers(c) {
		d, other := config.Clone(c), config.Clone(c)
		fresh := whole(other)
		writers(d)[name]()
		if !reflect.DeepEqual(whole(other), fresh) || !reflect.DeepEqual(whole(c), before) {
			t.Errorf("%s of a clone is written, and seen elsewhere", name)
		}
	}
	places := map[any]string{}
	for i, d := range []api.Config{c, config.Clone(c), config.Clone(c)} {
		for at, name := range addresses(d) {
			if was, is := places[at]; is && i > 0 {
				t.Errorf("%s shares with %s", name, was)
			}
			places[at] = fmt.Sprint("clone ", i, ": ", name)
		}
	}
	if a, b := count(config.Clone(c)), len(addresses(config.Clone(c))); a != b {
		t.Errorf("%d elements at %d addresses", a, b)
	}
}

// put puts the addresses of all of a list's elements, its spare room's too, into a map.
func put[E any](places map[any]string, name string, l []E) {
	for i := range l[:cap(l)] {
		places[&l[:cap(l)][i]] = name
	}
}

// addresses answers at which addresses the elements of c's lists stand, spare room too.
func addresses(c api.Config) map[any]string {
	places := map[any]string{}
	put(places, "Parts", c.Parts)
	put(places, "Windows", c.Windows)
	put(places, "Channels", c.Channels)
	for i, p := range c.Parts {
		put(places, fmt.Sprint("Threads of ", i), p.Threads)
		put(places, fmt.Sprint("Objects of ", i), p.Objects)
		for k, th := range p.Threads {
			put(places, fmt.Sprint("Program of ", i, ", ", k), th.Program)
			for n, call := range th.Program {
				put(places, fmt.Sprint("Words of ", i, ", ", k, ", ", n), call.Words)
			}
		}
	}
	return places
}

// count answers how many elements c's lists have, spare room too.
func count(c api.Config) int {
	n := cap(c.Parts) + cap(c.Windows) + cap(c.Channels)
	for _, p := range c.Parts {
		n += cap(p.Threads) + cap(p.Objects)
		for _, th := range p.Threads {
			n += cap(th.Program)
			for _, call := range th.Program {
				n += cap(call.Words)
			}
		}
	}
	return n
}

// R2, R3: no call changes what it is handed in, its spare room neither, or leans on spare room; and
// each answers the same again.
func TestHandedInIsLeft(t *testing.T) {
	all := map[string]api.Config{"nothing wrong": spacious()}
	for _, a := range turns() {
		c := spacious()
		c.Channels = roomy(greatest().Channels, api.Channel{})
		a.do(&c)
		all[a.name] = c
	}
	for name, c := range all {
		before := whole(c)
		tight := config.Clone(c)
		for range 2 {
			n, e := config.Valid(c)
			if m, f := config.Valid(tight); n != m || e != f {
				t.Errorf("%s: %d, %d, without spare room %d, %d", name, n, e, m, f)
			}
			if a, b := config.Frame(c), config.Frame(tight); a != b {
				t.Errorf("%s: frames of %d, without spare room %d", name, a, b)
			}
			for from := range 5 {
				for to := range 5 {
					if config.Leads(c, from, to) != config.Leads(tight, from, to) {
						t.Errorf("%s: Leads of %d, %d", name, from, to)
					}
				}
			}
			config.Clone(c)
		}
		if !reflect.DeepEqual(whole(c), before) {
			t.Errorf("%s: it has changed", name)
		}
	}
}

// R3: what stands in spare room doesn't count: here a window, a thread, a partition, that would make
// something right, and what would make it wrong.
func TestSpareRoomDoesNotCount(t *testing.T) {
	c := bare(2)
	c.Windows = c.Windows[:1]
	wrong(t, c, 8, "the window is in spare room")
	c = bare(2)
	c.Parts[1].Threads = c.Parts[1].Threads[:0]
	wrong(t, c, 2, "the thread is in spare room")
	c = bare(2)
	c.Parts = c.Parts[:0]
	wrong(t, c, 1, "the partitions are in spare room")
	c = line()
	c.Parts[0].Objects = c.Parts[0].Objects[:6]
	for k := range c.Parts[0].Threads {
		c.Parts[0].Threads[k].Caps = 0
	}
	wrong(t, c, 10, "the Out is in spare room")
	c = line()
	c.Channels = append(c.Channels, api.Channel{From: -1})[:2]
	c.Windows = append(c.Windows, api.Window{Part: 9})[:3]
	right(t, c, "what is wrong is in spare room")
}

// R4: a list of no elements may be nil or empty.
func TestNilAndEmpty(t *testing.T) {
	both := func(name string, want int, make func(empty bool) api.Config) {
		t.Helper()
		for _, empty := range []bool{false, true} {
			c := make(empty)
			if want == 0 {
				right(t, c, name)
			} else {
				wrong(t, c, want, name)
			}
			if d := config.Clone(c); fmt.Sprint(c) != fmt.Sprint(d) {
				t.Errorf("%s: the clone is %v, want %v", name, d, c)
			}
			if config.Frame(c) != config.Frame(make(!empty)) || config.Leads(c, 0, 1) || !config.Leads(c, 0, 0) {
				t.Errorf("%s: Frame %d, Leads of 0 and 1 %t", name, config.Frame(c), config.Leads(c, 0, 1))
			}
		}
	}
	turn := func(do func(c *api.Config, empty bool)) func(bool) api.Config {
		return func(empty bool) api.Config {
			c := bare(2)
			do(&c, empty)
			return c
		}
	}
	both("partitions", 1, turn(func(c *api.Config, empty bool) { c.Parts = none[api.Part](empty) }))
	both("threads", 2, turn(func(c *api.Config, empty bool) { c.Parts[0].Threads = none[api.Thread](empty) }))
	both("objects", 0, turn(func(c *api.Config, empty bool) { c.Parts[0].Objects = none[api.Object](empty) }))
	both("calls", 0, turn(func(c *api.Config, empty bool) { c.Parts[0].Threads[0].Program = none[api.Call](empty) }))
	both("words", 0, turn(func(c *api.Config, empty bool) {
		c.Parts[0].Threads[0].Program = []api.Call{{Words: none[int64](empty)}}
	}))
	both("windows", 6, turn(func(c *api.Config, empty bool) { c.Windows = none[api.Window](empty) }))
	both("channels", 0, turn(func(c *api.Config, empty bool) { c.Channels = none[api.Channel](empty) }))
}

// none answers a list of no elements that is nil, or empty.
func none[E any](empty bool) []E {
	if empty {
		return []E{}
	}
	return nil
}
