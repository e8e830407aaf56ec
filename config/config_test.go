package config_test

import (
	"fmt"
	"math"
	"slices"
	"testing"

	"septum/api"
	"septum/config"
)

// far are numbers that are far from all limits; some are within them in their lowest 8, 16 or 32 bits.
var far = []int{math.MaxInt, math.MaxInt - 1, math.MinInt, math.MinInt + 1, 1 << 8, 1<<8 + 1, 1 << 16, 1<<16 + 1,
	1 << 32, 1<<32 + 1, 1<<32 + 2, 1 << 62, -1 << 8, -1 << 16, -1 << 32, -1<<32 + 1, -2, -100}

// kinds are objects of each kind, by its number.
func kinds() []api.Object {
	return []api.Object{{Kind: 0, Size: 7}, {Kind: 1}, {Kind: 2, Size: 3, Priority: true}, {Kind: 3, Priority: true},
		{Kind: 4, Size: 5}, {Kind: 5, Size: 6}, {Kind: 6, Size: 2}, {Kind: 7, Size: 4}}
}

// bare makes a configuration of so many partitions, each with one thread and one window.
func bare(parts int) api.Config {
	var c api.Config
	for i := range parts {
		c.Parts = append(c.Parts, api.Part{Threads: []api.Thread{{Priority: i % 16}}})
		c.Windows = append(c.Windows, api.Window{Part: i, Ticks: i + 1})
	}
	return c
}

// every makes a configuration of so many partitions, each with two threads and an object of each
// kind: the Out is 6, and the In is 7.
func every(parts int) api.Config {
	c := bare(parts)
	for i := range c.Parts {
		words := []int64{int64(i), 1, 2}
		program := []api.Call{{Kind: 18, Handle: 5, Words: words}, {Kind: 20, Handle: 6, A: 9}}
		c.Parts[i].Threads = []api.Thread{{Priority: 0, Caps: 0xff, Control: true, Program: program}, {Priority: 15, Caps: 0x81}}
		c.Parts[i].Objects = kinds()
	}
	return c
}

// line makes three partitions with a channel from 0 to 1, and one from 1 to 2: the chapter's example.
func line() api.Config {
	c := every(3)
	c.Channels = []api.Channel{{From: 0, Out: 6, To: 1, In: 7}, {From: 1, Out: 6, To: 2, In: 7}}
	return c
}

// ringOf makes partitions in a ring: a channel leads from each to the next one, and from the last
// to the first.
func ringOf(parts int) api.Config {
	c := every(parts)
	for i := range parts {
		c.Channels = append(c.Channels, api.Channel{From: i, Out: 6, To: (i + 1) % parts, In: 7})
	}
	return c
}

// greatest makes a configuration in which there is as much of everything as may be. Of each
// partition's objects 0, 1 and 2 are an Out, and 3, 4 and 5 an In; its channels use 0, 1, 3 and 4.
func greatest() api.Config {
	var c api.Config
	for i := range 4 {
		var p api.Part
		for range 6 {
			p.Threads = append(p.Threads, api.Thread{Priority: 15, Caps: 0xff, Control: true, Program: make([]api.Call, 40)})
		}
		for k := range 6 {
			p.Objects = append(p.Objects, api.Object{Kind: 6 + k/3, Size: 16})
		}
		p.Objects = append(p.Objects, api.Object{Kind: 0, Size: 15}, api.Object{Kind: 2, Size: 16, Priority: true})
		c.Parts = append(c.Parts, p)
		c.Channels = append(c.Channels, api.Channel{From: i, Out: 0, To: (i + 1) % 4, In: 3}, api.Channel{From: i, Out: 1, To: (i + 2) % 4, In: 4})
	}
	for i := range 16 {
		c.Windows = append(c.Windows, api.Window{Part: i % 4, Ticks: 100})
	}
	return c
}

// rights are configurations with which nothing is wrong.
func rights() map[string]api.Config {
	return map[string]api.Config{
		"one partition": bare(1), "two": bare(2), "three": bare(3), "four": bare(4),
		"each kind": every(1), "each kind, twice": every(2), "each kind, four times": every(4),
		"a line": line(), "both directions": ringOf(2), "a ring of three": ringOf(3), "a ring of four": ringOf(4),
		"the greatest": greatest(),
	}
}

// right fails the test, unless nothing is wrong with c.
func right(t *testing.T, c api.Config, name string) {
	t.Helper()
	if n, e := config.Valid(c); n != 0 || e != api.OK {
		t.Errorf("%s: %d, %v, want 0 and OK", name, n, int(e))
	}
}

// wrong fails the test, unless want is what is wrong first with c.
func wrong(t *testing.T, c api.Config, want int, name string) {
	t.Helper()
	if n, e := config.Valid(c); n != want || e != api.ErrForm {
		t.Errorf("%s: %d, %v, want %d and ErrForm", name, n, int(e), want)
	}
}

// Words: the kinds' numbers.
func TestKinds(t *testing.T) {
	got := []int{config.Local, config.Global, config.Mail, config.Flags, config.Pool, config.Pipe, config.Out, config.In}
	if !slices.Equal(got, []int{0, 1, 2, 3, 4, 5, 6, 7}) {
		t.Error(got)
	}
}

// P11.1: ordinary configurations, and the greatest one.
func TestRightOnes(t *testing.T) {
	for name, c := range rights() {
		right(t, c, name)
		right(t, c, name+", again")
	}
}

// P11.1, 1: 1 to MaxParts partitions.
func TestCountOfParts(t *testing.T) {
	for n := 1; n <= 4; n++ {
		right(t, bare(n), fmt.Sprint(n, " partitions"))
	}
	wrong(t, bare(0), 1, "no partition")
	wrong(t, api.Config{}, 1, "nothing at all")
	for _, n := range []int{5, 6, 16, 256, 257, 1<<16 + 1} {
		c := bare(n)
		wrong(t, c, 1, fmt.Sprint(n, " partitions"))
		c.Windows = c.Windows[:4]
		wrong(t, c, 1, fmt.Sprint(n, " partitions, four windows"))
	}
}

// P11.1, 2: 1 to MaxThreads threads, of each partition.
func TestCountOfThreads(t *testing.T) {
	for parts := 1; parts <= 4; parts++ {
		for i := range parts {
			for n := range 12 {
				c, name := bare(parts), fmt.Sprint("partition ", i, " of ", parts, ", threads ", n)
				c.Parts[i].Threads = make([]api.Thread, n)
				if n >= 1 && n <= 6 {
					right(t, c, name)
				} else {
					wrong(t, c, 2, name)
				}
			}
			c := bare(parts)
			c.Parts[i].Threads = make([]api.Thread, 1<<16+1)
			wrong(t, c, 2, "many threads")
		}
	}
}

// P11.1, 3: at most MaxObjects objects, of each partition.
func TestCountOfObjects(t *testing.T) {
	for parts := 1; parts <= 4; parts++ {
		for i := range parts {
			for _, n := range []int{0, 1, 2, 3, 4, 5, 6, 7, 8, 9, 10, 31, 32, 33, 255, 256, 257, 264} {
				c, name := bare(parts), fmt.Sprint("partition ", i, " of ", parts, ", objects ", n)
				c.Parts[i].Objects = make([]api.Object, n)
				if n <= 8 {
					right(t, c, name)
					continue
				}
				wrong(t, c, 3, name)
				c.Parts[i].Threads[0].Caps = 1<<32 - 1
				wrong(t, c, 3, name+", all of them used")
			}
		}
	}
}

// threads answers what a configuration is with each of its threads turned, one at a time.
func threads(make func() api.Config, turn func(*api.Thread)) map[string]api.Config {
	all := map[string]api.Config{}
	for i, p := range make().Parts {
		for k := range p.Threads {
			c := make()
			turn(&c.Parts[i].Threads[k])
			all[fmt.Sprint("thread ", k, " of partition ", i)] = c
		}
	}
	return all
}

// P11.1, 4: a thread's priority is 0 to Levels - 1.
func TestPriority(t *testing.T) {
	for p := range 16 {
		for name, c := range threads(greatest, func(th *api.Thread) { th.Priority = p }) {
			right(t, c, fmt.Sprint(name, ", priority ", p))
		}
	}
	for _, p := range append([]int{-1, 16, 17}, far...) {
		for name, c := range threads(greatest, func(th *api.Thread) { th.Priority = p }) {
			wrong(t, c, 4, fmt.Sprint(name, ", priority ", p))
		}
	}
}

// P11.1, 4: Caps have bits of objects that are there alone.
func TestCaps(t *testing.T) {
	for n := range 9 {
		with := func() api.Config {
			c := bare(2)
			c.Parts[1].Objects = make([]api.Object, n)
			return c
		}
		for caps := range uint32(1024) {
			c, name := with(), fmt.Sprint(n, " objects, Caps ", caps)
			c.Parts[1].Threads[0].Caps = caps
			if caps < 1<<n {
				right(t, c, name)
			} else {
				wrong(t, c, 4, name)
			}
		}
		for _, caps := range []uint32{1 << 8, 1 << 16, 1 << 31, 1<<32 - 1, 1<<32 - 256, 1<<31 + 1, 1<<16 + 1} {
			c := with()
			c.Parts[1].Threads[0].Caps = caps
			wrong(t, c, 4, fmt.Sprint(n, " objects, Caps ", caps))
		}
		// The objects of another partition don't count.
		c := with()
		c.Parts[0].Threads[0].Caps = 1
		wrong(t, c, 4, "a bit of another one's object")
	}
	for name, c := range threads(greatest, func(th *api.Thread) { th.Caps = 1 << 8 }) {
		wrong(t, c, 4, name+", the first bit that isn't there")
	}
	for name, c := range threads(greatest, func(th *api.Thread) { th.Caps = 1 << 7 }) {
		right(t, c, name+", the last bit that is there")
	}
}

// P11.1, 4: a program has at most MaxProgram calls.
func TestProgram(t *testing.T) {
	for n := range 44 {
		for name, c := range threads(greatest, func(th *api.Thread) { th.Program = make([]api.Call, n) }) {
			name += fmt.Sprint(", calls ", n)
			if n <= 40 {
				right(t, c, name)
			} else {
				wrong(t, c, 4, name)
			}
		}
	}
	for _, n := range []int{256, 257, 1 << 16} {
		c := bare(1)
		c.Parts[0].Threads[0].Program = make([]api.Call, n)
		wrong(t, c, 4, fmt.Sprint("calls ", n))
	}
}

// P11.1: whatever a program's calls are, and whether a thread is in Control, isn't asked.
func TestCallsAreNotAsked(t *testing.T) {
	for _, n := range append([]int{-1, 24, 25}, far...) {
		c := bare(1)
		c.Parts[0].Threads[0].Program = []api.Call{{Kind: n, Handle: n, A: int64(n), B: int64(n), Words: make([]int64, 99), Timeout: n}}
		right(t, c, fmt.Sprint("a call of ", n))
	}
	for name, c := range threads(greatest, func(th *api.Thread) { th.Control = !th.Control }) {
		right(t, c, name+" turned its Control")
	}
}

// sizes are the least and the greatest Size of each kind; waits are those kinds of which Priority
// may be true.
var (
	sizes = [8][2]int{{0, 15}, {0, 0}, {1, 16}, {0, 0}, {1, 16}, {1, 16}, {1, 16}, {1, 16}}
	waits = [8]bool{2: true, 3: true, 4: true, 5: true}
)

// P11.1, 5: each Kind with Sizes and Priority, as each object of a partition.
func TestObjects(t *testing.T) {
	for kind := range 8 {
		for _, size := range append([]int{-1, 0, 1, 2, 7, 14, 15, 16, 17, 18}, far...) {
			for _, priority := range []bool{false, true} {
				ok := size >= sizes[kind][0] && size <= sizes[kind][1] && (!priority || waits[kind])
				for place := range 16 {
					c := every(2)
					o := api.Object{Kind: kind, Size: size, Priority: priority}
					c.Parts[place/8].Objects[place%8] = o
					if name := fmt.Sprintf("object %d: %+v", place, o); ok {
						right(t, c, name)
					} else {
						wrong(t, c, 5, name)
					}
				}
			}
		}
	}
}

// P11.1, 5: kinds that are none.
func TestKindsThatAreNone(t *testing.T) {
	for _, kind := range append([]int{-1, 8, 9, 10, 16}, far...) {
		for _, size := range []int{0, 1, 2, 15, 16} {
			for place := range 16 {
				c := every(2)
				c.Parts[place/8].Objects[place%8] = api.Object{Kind: kind, Size: size, Priority: place%3 == 0}
				wrong(t, c, 5, fmt.Sprint("kind ", kind))
			}
		}
	}
}

// P11.1, 6: 1 to MaxWindows windows.
func TestCountOfWindows(t *testing.T) {
	for parts := 1; parts <= 4; parts++ {
		for n := range 20 {
			c, name := bare(parts), fmt.Sprint(parts, " partitions, windows ", n)
			c.Windows = nil
			for i := range n {
				c.Windows = append(c.Windows, api.Window{Part: i % parts, Ticks: 1})
			}
			switch {
			case n < 1 || n > 16:
				wrong(t, c, 6, name)
			case n < parts:
				wrong(t, c, 8, name)
			default:
				right(t, c, name)
			}
		}
	}
	c := bare(1)
	c.Windows = make([]api.Window, 1<<16+1)
	wrong(t, c, 6, "many windows")
}

// P11.1, 7: each window is of a partition, and of 1 to MaxTicks ticks.
func TestWindows(t *testing.T) {
	for i := range 16 {
		for ticks := -3; ticks < 110; ticks++ {
			c, name := greatest(), fmt.Sprint("window ", i, " of ticks ", ticks)
			c.Windows[i].Ticks = ticks
			if ticks >= 1 && ticks <= 100 {
				right(t, c, name)
			} else {
				wrong(t, c, 7, name)
			}
		}
		for _, n := range far {
			c := greatest()
			c.Windows[i].Ticks = n
			wrong(t, c, 7, fmt.Sprint("window ", i, " of ticks ", n))
		}
		for _, n := range append([]int{-1, 4, 5, 16}, far...) {
			c := greatest()
			c.Windows[i].Part = n
			wrong(t, c, 7, fmt.Sprint("window ", i, " of partition ", n))
		}
	}
	for parts := 1; parts <= 4; parts++ {
		for p := -1; p < 6; p++ {
			c, name := bare(parts), fmt.Sprint(parts, " partitions, a window of ", p)
			c.Windows = append(c.Windows, api.Window{Part: p, Ticks: 1})
			if p >= 0 && p < parts {
				right(t, c, name)
			} else {
				wrong(t, c, 7, name)
			}
		}
	}
}

// P11.1, 8: each partition has a window: every choice of those that have one, in both directions.
func TestPartsWithoutWindow(t *testing.T) {
	for parts := 1; parts <= 4; parts++ {
		for have := 1; have < 1<<parts; have++ {
			c := bare(parts)
			c.Windows = slices.DeleteFunc(c.Windows, func(w api.Window) bool { return have>>w.Part&1 == 0 })
			for _, name := range []string{"", ", backward"} {
				name = fmt.Sprintf("%d partitions, windows of %b%s", parts, have, name)
				if have == 1<<parts-1 {
					right(t, c, name)
				} else {
					wrong(t, c, 8, name)
				}
				slices.Reverse(c.Windows)
			}
		}
	}
	for p := range 4 {
		c := greatest()
		for i := range c.Windows {
			if c.Windows[i].Part == p {
				c.Windows[i].Part = (p + 1) % 4
			}
		}
		wrong(t, c, 8, fmt.Sprint("16 windows, none of ", p))
	}
}
