package ring_test

import (
	"fmt"
	"math"
	"math/big"
	"slices"
	"testing"

	"septum/api"
	"septum/frame"
	"septum/ring"
	"septum/word"
)

// most is how many accesses a call of this layer may do.
const most = 60

// The ends of what a word holds.
const (
	least    = math.MinInt64
	greatest = math.MaxInt64
)

// begins are counts at which a ring may begin: at 0, as rings do, elsewhere, below 0, and near
// both ends of what a word holds.
var begins = []int64{0, 1, 2, 7, 1000, 1<<53 + 1, greatest - 40, greatest - 2, greatest - 1, greatest,
	least, least + 1, least + 2, -40, -2, -1}

// filled makes a memory that holds the given words.
func filled(words ...int64) *word.Mem {
	m := word.New(len(words))
	for a, v := range words {
		m.Store(a, v)
	}
	return m
}

// strange makes so many words that nobody puts, each another one.
func strange(size int) []int64 {
	words := make([]int64, size)
	for a := range words {
		words[a] = -1000 - int64(a)
	}
	return words
}

// holds fails the test, unless m holds just the given words.
func holds(t *testing.T, m *word.Mem, want []int64) {
	t.Helper()
	got := m.Words()
	if len(got) != len(want) {
		t.Fatalf("%d words, want %d", len(got), len(want))
	}
	for a := range want {
		if got[a] != want[a] {
			t.Errorf("word %d: %d, want %d", a, got[a], want[a])
		}
	}
}

// play plays one call to its end, and answers how many accesses it did: at most most.
func play(t *testing.T, m *word.Mem, body frame.Body) int {
	t.Helper()
	f := frame.New(m)
	for now := range 200 {
		if f.Step(now, body) {
			if f.Steps() > most {
				t.Errorf("%d accesses in one call", f.Steps())
			}
			return f.Steps()
		}
	}
	t.Fatal("the body is not done")
	return 0
}

// answer is what a call answers: a word, or a length, and whether it did what it is for.
type answer struct {
	v  int64
	ok bool
}

// none is what a call answers that did nothing.
var none = answer{}

// The calls as bodies that tell what they were answered.

func puts(at, c int, v int64, a *answer) frame.Body {
	return func(f *frame.Frame) { *a = answer{ok: ring.Put(f, at, c, v)} }
}

func gets(at, c int, a *answer) frame.Body {
	return func(f *frame.Frame) { a.v, a.ok = ring.Get(f, at, c) }
}

func counted(at int, a *answer) frame.Body {
	return func(f *frame.Frame) { *a = answer{v: int64(ring.Len(f, at))} }
}

func clears(at int) frame.Body { return func(f *frame.Frame) { ring.Clear(f, at) } }

// The calls in frames of their own: what they answer, and how many accesses they did.

func put(t *testing.T, m *word.Mem, at, c int, v int64) (bool, int) {
	t.Helper()
	a := answer{}
	did := play(t, m, puts(at, c, v, &a))
	return a.ok, did
}

func get(t *testing.T, m *word.Mem, at, c int) (answer, int) {
	t.Helper()
	a := answer{-77, true}
	did := play(t, m, gets(at, c, &a))
	return a, did
}

func length(t *testing.T, m *word.Mem, at int) int {
	t.Helper()
	a := answer{v: -77}
	if did := play(t, m, counted(at, &a)); did != 2 {
		t.Errorf("Len: %d accesses", did)
	}
	return int(a.v)
}

// place is where the n-th word stands among the c words, by numbers without ends: n modulo c,
// where a count at the lower end is one that went round at the upper one.
func place(c int, n int64) int {
	count := big.NewInt(n)
	if n < -1<<62 {
		count.Add(count, new(big.Int).Lsh(big.NewInt(1), 64))
	}
	return int(count.Mod(count, big.NewInt(int64(c))).Int64())
}

// shape is a ring as it should stand: its counts, which words are there, and what its c words
// hold, with the next one's place among them.
type shape struct {
	at, c       int
	taken, put  int64
	there, room []int64
	next        int
}

// model is rings of one memory as they should stand.
type model struct {
	mem   *word.Mem
	rings []shape
}

// newModel makes empty rings of the sizes, all of whose counts are begin, with words that belong
// to nobody around them, and in them too. Ring by ring there are gap words between.
func newModel(begin int64, gap int, sizes ...int) *model {
	s := &model{}
	at := 1
	for _, c := range sizes {
		s.rings = append(s.rings, shape{at: at, c: c, taken: begin, put: begin, next: place(c, begin)})
		at += c + 2 + gap
	}
	words := strange(at + 1)
	for i := range s.rings {
		r := &s.rings[i]
		words[r.at], words[r.at+1] = begin, begin
		r.room = slices.Clone(words[r.at+2 : r.at+2+r.c])
	}
	s.mem = filled(words...)
	return s
}

// clone answers a model of its own that stands as s does.
func (s *model) clone() *model {
	c := &model{mem: filled(s.mem.Words()...), rings: slices.Clone(s.rings)}
	for i := range c.rings {
		c.rings[i].there = slices.Clone(c.rings[i].there)
		c.rings[i].room = slices.Clone(c.rings[i].room)
	}
	return c
}

// put fails the test, unless Put answers what it should, and answers that.
func (s *model) put(t *testing.T, i int, v int64) bool {
	t.Helper()
	r := &s.rings[i]
	want, accesses := len(r.there) < r.c, 2
	if want {
		accesses = 4
		r.put++
		r.there = append(r.there, v)
		r.room[r.next] = v
		r.next = (r.next + 1) % r.c
	}
	if got, did := put(t, s.mem, r.at, r.c, v); got != want || did != accesses {
		t.Errorf("Put: %t, %d accesses, want %t, %d", got, did, want, accesses)
	}
	return want
}

// get fails the test, unless Get answers what it should, and answers that.
func (s *model) get(t *testing.T, i int) answer {
	t.Helper()
	r := &s.rings[i]
	want, accesses := none, 2
	if len(r.there) > 0 {
		want, accesses = answer{r.there[0], true}, 4
		r.taken++
		r.there = r.there[1:]
	}
	if got, did := get(t, s.mem, r.at, r.c); got != want || did != accesses {
		t.Errorf("Get: %v, %d accesses, want %v, %d", got, did, want, accesses)
	}
	return want
}

// length fails the test, unless Len answers what it should.
func (s *model) length(t *testing.T, i int) {
	t.Helper()
	r := &s.rings[i]
	if got := length(t, s.mem, r.at); got != len(r.there) {
		t.Errorf("Len: %d, want %d", got, len(r.there))
	}
}

// clear clears a ring.
func (s *model) clear(t *testing.T, i int) {
	t.Helper()
	r := &s.rings[i]
	if did := play(t, s.mem, clears(r.at)); did != 2 {
		t.Errorf("Clear: %d accesses", did)
	}
	r.taken, r.there = r.put, nil
}

// check fails the test, unless every word is as the model says.
func (s *model) check(t *testing.T, how ...any) {
	t.Helper()
	want := strange(s.mem.Len())
	for _, r := range s.rings {
		want[r.at], want[r.at+1] = r.taken, r.put
		copy(want[r.at+2:], r.room)
	}
	holds(t, s.mem, want)
	if t.Failed() {
		t.Fatal(how...)
	}
}

// P8.1: Words: c and 2 of each size, 0 of what is none.
func TestWords(t *testing.T) {
	for c := 1; c <= api.MaxSize; c++ {
		if got := ring.Words(c); got != c+2 {
			t.Errorf("Words(%d): %d", c, got)
		}
	}
	for _, c := range noSizes {
		if got := ring.Words(c); got != 0 {
			t.Errorf("Words(%d): %d", c, got)
		}
	}
}

// noSizes are some of which nothing is done.
var noSizes = []int{0, -1, -2, -3, -16, -17, -1 << 32, 1<<32 + 3, 17, 18, 19, 32, 4000,
	math.MaxInt, math.MaxInt - 1, math.MaxInt - 2, math.MinInt, math.MinInt + 1, math.MinInt + 3}

// P8.1, the example: of a ring of the size 1 Put, Put: true, false.
func TestExample(t *testing.T) {
	m := word.New(3)
	if ok, did := put(t, m, 0, 1, 8); !ok || did != 4 {
		t.Error(ok, did)
	}
	holds(t, m, []int64{0, 1, 8})
	if ok, did := put(t, m, 0, 1, 9); ok || did != 2 {
		t.Error(ok, did)
	}
	holds(t, m, []int64{0, 1, 8})
	if a, did := get(t, m, 0, 1); a != (answer{8, true}) || did != 4 {
		t.Error(a, did)
	}
	holds(t, m, []int64{1, 1, 8})
	if a, did := get(t, m, 0, 1); a != none || did != 2 {
		t.Error(a, did)
	}
	holds(t, m, []int64{1, 1, 8})
}

// P8.1, Words: rings of each size, of new words, are filled and emptied several times round, from
// each count on: the words come in the order in which they were put, each stands in its place,
// and one too many is not put, one too many not got.
func TestFillAndEmpty(t *testing.T) {
	for c := 1; c <= api.MaxSize; c++ {
		for _, begin := range begins {
			s := newModel(begin, 1, c)
			v := int64(1)
			for round := range 5 {
				s.length(t, 0)
				for s.put(t, 0, v) {
					v++
					s.check(t, "put", c, begin, round)
					s.length(t, 0)
				}
				s.check(t, "full", c, begin, round)
				// Of every second round one stays there, so that the next begins elsewhere.
				for left := c; left > round%2; left-- {
					s.get(t, 0)
					s.check(t, "get", c, begin, round)
					s.length(t, 0)
				}
				if round%2 == 0 {
					s.get(t, 0)
					s.check(t, "empty", c, begin, round)
				}
			}
		}
	}
}

// P8.1: one word is put and one got, often: the ring is gone round several times, though it
// never holds more than one, or never less than all but one.
func TestRoundAndRound(t *testing.T) {
	for c := 1; c <= api.MaxSize; c++ {
		for _, begin := range begins {
			for _, ahead := range []int{0, c - 1} {
				s := newModel(begin, 0, c)
				for i := range ahead {
					s.put(t, 0, int64(100+i))
				}
				for i := range 3*c + 2 {
					s.put(t, 0, int64(200+i))
					s.check(t, "put", c, begin, ahead, i)
					s.get(t, 0)
					s.check(t, "get", c, begin, ahead, i)
				}
			}
		}
	}
}

// P8.1: every word may be put: 0, the greatest and the least one, and such as counts are.
func TestEveryWordMayBePut(t *testing.T) {
	words := []int64{0, greatest, least, -1, 1, 0, 0, greatest, least + 1, 1<<53 + 1, 17, 2}
	for _, c := range []int{1, 2, 12, 16} {
		for _, begin := range begins {
			s := newModel(begin, 1, c)
			for _, v := range words {
				if !s.put(t, 0, v) {
					s.get(t, 0)
					s.put(t, 0, v)
				}
				s.check(t, c, begin, v)
			}
			for s.get(t, 0).ok {
				s.check(t, c, begin)
			}
		}
	}
}

// P8.1: Clear of a ring that holds so many words, none and all of them among these: none are
// there, only the count of those taken has changed, and it can be filled anew.
func TestClear(t *testing.T) {
	for _, c := range []int{1, 2, 3, 7, 16} {
		for _, begin := range begins {
			for ahead := range c + 1 {
				s := newModel(begin, 1, c)
				for i := range ahead {
					s.put(t, 0, int64(i))
				}
				for range 2 {
					s.clear(t, 0)
					s.check(t, "clear", c, begin, ahead)
					s.length(t, 0)
					s.get(t, 0)
					s.check(t, "get", c, begin, ahead)
				}
				for i := 0; s.put(t, 0, int64(50+i)); i++ {
					s.check(t, "put", c, begin, ahead)
				}
				s.clear(t, 0)
				s.check(t, "clear the full one", c, begin, ahead)
				s.put(t, 0, 9)
				s.get(t, 0)
				s.check(t, "behind it", c, begin, ahead)
			}
		}
	}
}

// follow does every order of calls, so many of them, of one ring.
func follow(t *testing.T, s *model, left int, how []string) {
	if left == 0 {
		return
	}
	for _, call := range []string{"Put", "Get", "Len", "Clear"} {
		next, how := s.clone(), append(slices.Clone(how), call)
		switch call {
		case "Put":
			next.put(t, 0, int64(10+left))
		case "Get":
			next.get(t, 0)
		case "Len":
			next.length(t, 0)
		case "Clear":
			next.clear(t, 0)
		}
		next.check(t, how)
		follow(t, next, left-1, how)
	}
}

// P8.1: every order of six calls, of small rings, from 0 on, and from the upper end on.
func TestEveryOrderOfCalls(t *testing.T) {
	for _, c := range []int{1, 2, 3} {
		for _, begin := range []int64{0, greatest - 1, -2} {
			follow(t, newModel(begin, 1, c), 6, []string{fmt.Sprint("size ", c, " from ", begin)})
		}
	}
}

// P8.1: several rings in one memory, side by side, by a rule: each is as if it were alone.
func TestManyCalls(t *testing.T) {
	for seed := range 8 {
		s := newModel(begins[seed*2], seed%2, 3, 1, 16, 2, 5)
		state := uint32(seed)*2654435761 + 1
		draw := func(n int) int {
			state = state*1664525 + 1013904223
			return int(state>>16) % n
		}
		for i := range 1500 {
			r := draw(len(s.rings))
			call := draw(40)
			switch {
			case call == 0:
				s.clear(t, r)
			case call < 6:
				s.length(t, r)
			// Now more are put, now more are got.
			case (call < 28) == (i/50%2 == 0):
				s.put(t, r, int64(i))
			default:
				s.get(t, r)
			}
			s.check(t, seed, i)
		}
	}
}

// P8.1: the places of a memory at which a ring may lie: its first words, and its last ones.
func TestEveryAddress(t *testing.T) {
	const size = 12
	for _, c := range []int{1, 3, 8} {
		for at := range size - c - 1 {
			words := strange(size)
			words[at], words[at+1] = 0, 0
			m := filled(words...)
			for i := range c {
				put(t, m, at, c, int64(i+1))
				words[at+1], words[at+2+i] = int64(i+1), int64(i+1)
				holds(t, m, words)
			}
			put(t, m, at, c, 99)
			holds(t, m, words)
			for i := range c {
				a, _ := get(t, m, at, c)
				words[at] = int64(i + 1)
				holds(t, m, words)
				if a != (answer{int64(i + 1), true}) {
					t.Errorf("at %d, size %d: %v", at, c, a)
				}
			}
		}
	}
}

// script is a call that is underway, and what another one makes of the memory between its steps.
type script struct {
	name    string
	words   []int64 // of a ring of the size 2 at 0
	call    func(a *answer) frame.Body
	between map[int][2]int64 // ahead of that step, from 0 on: an address, and its new word
	want    answer
	steps   int
	after   []int64
}

// callsOfTwo are calls of a ring of the size 2 at 0.
var (
	putOfTwo = func(a *answer) frame.Body { return puts(0, 2, 9, a) }
	getOfTwo = func(a *answer) frame.Body { return gets(0, 2, a) }
	lenOfTwo = func(a *answer) frame.Body { return counted(0, a) }
	clearTwo = func(*answer) frame.Body { return clears(0) }
)

// scripts tell which accesses each call does, and in which order: a word that is changed ahead of
// its load counts, and one that is changed behind its load doesn't.
var scripts = []script{
	{"Put: the first access is of those taken", []int64{4, 5, 70, 71}, putOfTwo,
		map[int][2]int64{0: {0, 3}}, none, 2, []int64{3, 5, 70, 71}},
	{"Put: the taken are loaded once, ahead of the put", []int64{4, 5, 70, 71}, putOfTwo,
		map[int][2]int64{1: {0, 3}}, answer{0, true}, 4, []int64{3, 6, 70, 9}},
	{"Put: what is taken behind that makes no room", []int64{4, 6, 70, 71}, putOfTwo,
		map[int][2]int64{1: {0, 5}}, none, 2, []int64{5, 6, 70, 71}},
	{"Put: the second access is of those put", []int64{4, 5, 70, 71}, putOfTwo,
		map[int][2]int64{1: {1, 6}}, none, 2, []int64{4, 6, 70, 71}},
	{"Put: its place is by those put, at that access", []int64{4, 5, 70, 71}, putOfTwo,
		map[int][2]int64{1: {1, 4}}, answer{0, true}, 4, []int64{4, 5, 9, 71}},
	{"Put: the put are loaded once", []int64{4, 5, 70, 71}, putOfTwo,
		map[int][2]int64{2: {1, 6}}, answer{0, true}, 4, []int64{4, 6, 70, 9}},
	{"Put: the word is stored by the third access", []int64{4, 5, 70, 71}, putOfTwo,
		map[int][2]int64{3: {3, 80}}, answer{0, true}, 4, []int64{4, 6, 70, 80}},
	{"Put: the count is stored, not added to, by the fourth", []int64{4, 5, 70, 71}, putOfTwo,
		map[int][2]int64{3: {1, 90}}, answer{0, true}, 4, []int64{4, 6, 70, 9}},
	{"Get: the first access is of those taken", []int64{4, 5, 70, 71}, getOfTwo,
		map[int][2]int64{0: {0, 5}}, none, 2, []int64{5, 5, 70, 71}},
	{"Get: the taken are loaded once, ahead of the put", []int64{4, 5, 70, 71}, getOfTwo,
		map[int][2]int64{1: {0, 5}}, answer{70, true}, 4, []int64{5, 5, 70, 71}},
	{"Get: the second access is of those put", []int64{4, 5, 70, 71}, getOfTwo,
		map[int][2]int64{1: {1, 4}}, none, 2, []int64{4, 4, 70, 71}},
	{"Get: what is put ahead of that is there", []int64{5, 5, 70, 71}, getOfTwo,
		map[int][2]int64{1: {1, 6}}, answer{71, true}, 4, []int64{6, 6, 70, 71}},
	{"Get: what is put behind that isn't", []int64{5, 5, 70, 71}, getOfTwo,
		map[int][2]int64{2: {1, 6}}, none, 2, []int64{5, 5, 70, 71}},
	{"Get: the put are loaded once", []int64{4, 5, 70, 71}, getOfTwo,
		map[int][2]int64{2: {1, 4}}, answer{70, true}, 4, []int64{5, 4, 70, 71}},
	{"Get: the word is loaded by the third access, not ahead of it", []int64{4, 5, 70, 71}, getOfTwo,
		map[int][2]int64{2: {2, 80}}, answer{80, true}, 4, []int64{5, 5, 80, 71}},
	{"Get: the word is loaded by the third access, not behind it", []int64{4, 5, 70, 71}, getOfTwo,
		map[int][2]int64{3: {2, 80}}, answer{70, true}, 4, []int64{5, 5, 80, 71}},
	{"Get: the count is stored, not added to, by the fourth", []int64{4, 5, 70, 71}, getOfTwo,
		map[int][2]int64{3: {0, 90}}, answer{70, true}, 4, []int64{5, 5, 70, 71}},
	{"Len: the first access is of those taken", []int64{4, 6, 70, 71}, lenOfTwo,
		map[int][2]int64{0: {0, 5}}, answer{1, false}, 2, []int64{5, 6, 70, 71}},
	{"Len: the taken are loaded once, ahead of the put", []int64{4, 6, 70, 71}, lenOfTwo,
		map[int][2]int64{1: {0, 5}}, answer{2, false}, 2, []int64{5, 6, 70, 71}},
	{"Len: the second access is of those put", []int64{4, 5, 70, 71}, lenOfTwo,
		map[int][2]int64{1: {1, 6}}, answer{2, false}, 2, []int64{4, 6, 70, 71}},
	{"Clear: the first access is of those put", []int64{4, 5, 70, 71}, clearTwo,
		map[int][2]int64{0: {1, 6}}, none, 2, []int64{6, 6, 70, 71}},
	{"Clear: the put are loaded once, ahead of the store", []int64{4, 5, 70, 71}, clearTwo,
		map[int][2]int64{1: {1, 6}}, none, 2, []int64{5, 6, 70, 71}},
	{"Clear: the taken are stored, not added to, by the second", []int64{4, 5, 70, 71}, clearTwo,
		map[int][2]int64{1: {0, 90}}, none, 2, []int64{5, 5, 70, 71}},
	{"Clear: of an empty one, too", []int64{5, 5, 70, 71}, clearTwo,
		map[int][2]int64{1: {0, 90}}, none, 2, []int64{5, 5, 70, 71}},
}

// P8.1: which accesses each call does, and in which order.
func TestAccessesInOrder(t *testing.T) {
	for _, s := range scripts {
		m := filled(s.words...)
		a := answer{}
		f := frame.New(m)
		for now := 0; !f.Done() && now < most; now++ {
			if change, there := s.between[now]; there {
				m.Store(int(change[0]), change[1])
			}
			f.Step(now, s.call(&a))
		}
		// What comes behind the call's end is nothing to it.
		if a != s.want || f.Steps() != s.steps {
			t.Errorf("%s: %v, %d accesses, want %v, %d", s.name, a, f.Steps(), s.want, s.steps)
		}
		holds(t, m, s.after)
		if t.Failed() {
			t.Fatal(s.name)
		}
	}
}

// P8.1: behind each step of a call the memory is what its accesses so far have made of it.
func TestMemoryBehindEachStep(t *testing.T) {
	const u = -1001
	for name, c := range map[string]struct {
		words []int64
		call  func(a *answer) frame.Body
		after [][]int64
	}{
		"Put":          {[]int64{4, 5, 70, u}, putOfTwo, [][]int64{{4, 5, 70, u}, {4, 5, 70, u}, {4, 5, 70, 9}, {4, 6, 70, 9}}},
		"Put of full":  {[]int64{4, 6, 70, 71}, putOfTwo, [][]int64{{4, 6, 70, 71}, {4, 6, 70, 71}}},
		"Get":          {[]int64{4, 6, 70, 71}, getOfTwo, [][]int64{{4, 6, 70, 71}, {4, 6, 70, 71}, {4, 6, 70, 71}, {5, 6, 70, 71}}},
		"Get of none":  {[]int64{6, 6, 70, 71}, getOfTwo, [][]int64{{6, 6, 70, 71}, {6, 6, 70, 71}}},
		"Len":          {[]int64{4, 6, 70, 71}, lenOfTwo, [][]int64{{4, 6, 70, 71}, {4, 6, 70, 71}}},
		"Clear":        {[]int64{4, 6, 70, 71}, clearTwo, [][]int64{{4, 6, 70, 71}, {6, 6, 70, 71}}},
		"Put at wrap":  {[]int64{greatest, greatest, u, u}, putOfTwo, [][]int64{{greatest, greatest, u, u}, {greatest, greatest, u, u}, {greatest, greatest, u, 9}, {greatest, least, u, 9}}},
		"Get at wrap":  {[]int64{greatest, least, u, 9}, getOfTwo, [][]int64{{greatest, least, u, 9}, {greatest, least, u, 9}, {greatest, least, u, 9}, {least, least, u, 9}}},
		"Full at wrap": {[]int64{greatest, least + 1, 8, 9}, putOfTwo, [][]int64{{greatest, least + 1, 8, 9}, {greatest, least + 1, 8, 9}}},
	} {
		m := filled(c.words...)
		a := answer{}
		f := frame.New(m)
		for now, want := range c.after {
			if done := f.Step(now, c.call(&a)); done != (now == len(c.after)-1) {
				t.Errorf("%s, step %d: done %t", name, now, done)
			}
			holds(t, m, want)
			if t.Failed() {
				t.Fatal(name, now)
			}
		}
	}
}

// P8.1: if the frame goes off, 0, false: step by step, whatever stands in the counts, ahead of
// the step that does the call's last access.
func TestAnswersGoOff(t *testing.T) {
	for _, begin := range begins {
		for length := range int64(3) {
			for name, call := range map[string]func(a *answer) frame.Body{
				"Put": putOfTwo, "Get": getOfTwo, "Len": lenOfTwo,
			} {
				m := filled(begin, begin+length, 70, 71)
				a := answer{}
				body := func(f *frame.Frame) {
					f.Load(0) // so that the first step has none left
					call(&a)(f)
				}
				f := frame.New(m)
				for now := 0; !f.Step(now, body); now++ {
					if a != none {
						t.Errorf("%s of %d from %d, step %d: %v", name, length, begin, now, a)
					}
					if now > most {
						t.Fatalf("%s is not done", name)
					}
				}
				wants := map[string]answer{
					"Put": {0, length < 2}, "Get": {0, length > 0}, "Len": {length, false},
				}
				if length > 0 {
					wants["Get"] = answer{70 + begin&1, true}
				}
				if a != wants[name] || f.Steps() < 3 {
					t.Errorf("%s of %d from %d: %v with %d accesses", name, length, begin, a, f.Steps())
				}
			}
		}
	}
}

// P8.1: each call, step by step: one access a step, and behind the last one what one go does,
// also if a word that isn't the ring's changes in between.
func TestCallsGoOff(t *testing.T) {
	const at, c = 1, 3
	a := answer{}
	for name, call := range map[string]frame.Body{
		"Put": puts(at, c, 5, &a), "Get": gets(at, c, &a), "Len": counted(at, &a), "Clear": clears(at),
		"Put till it is full": func(f *frame.Frame) {
			for range 5 {
				ring.Put(f, at, c, 6)
			}
		},
		"Get till it is empty": func(f *frame.Frame) {
			for range 5 {
				ring.Get(f, at, c)
			}
		},
		"all": func(f *frame.Frame) {
			ring.Put(f, at, c, 8)
			v, _ := ring.Get(f, at, c)
			ring.Put(f, at, c, v+int64(ring.Len(f, at)))
			ring.Clear(f, at)
			ring.Put(f, at, c, v)
		},
	} {
		words := []int64{-1, 4, 6, 60, 70, 71, -2}
		m, whole := filled(words...), filled(words...)
		play(t, whole, call)
		off := false
		body := func(f *frame.Frame) { call(f); off = f.Off() }
		f := frame.New(m)
		for now := 0; ; now++ {
			before := m.Words()
			done := f.Step(now, body)
			if f.Steps() != now+1 || off == done || changed(before, m.Words()) > 1 {
				t.Errorf("%s, step %d: done %t, Off %t, %d accesses", name, now, done, off, f.Steps())
			}
			if done || now > most {
				break
			}
			m.Store(0, int64(now))
		}
		m.Store(0, -1)
		holds(t, m, whole.Words())
	}
}

// changed tells how many words are others.
func changed(before, behind []int64) int {
	n := 0
	for a := range before {
		if before[a] != behind[a] {
			n++
		}
	}
	return n
}

// everyOff does every call with a frame that is off.
func everyOff(t *testing.T, f *frame.Frame, at, c int) {
	t.Helper()
	if ring.Put(f, at, c, 7) {
		t.Errorf("Put of %d, %d: true", at, c)
	}
	if v, ok := ring.Get(f, at, c); v != 0 || ok {
		t.Errorf("Get of %d, %d: %d, %t", at, c, v, ok)
	}
	if n := ring.Len(f, at); n != 0 {
		t.Errorf("Len of %d: %d", at, n)
	}
	ring.Clear(f, at)
}

// P8.1: calls behind the step's access: they go off, answer 0, false, and do nothing.
func TestFrameIsOff(t *testing.T) {
	a := answer{}
	for name, call := range map[string]frame.Body{
		"Put": puts(0, 2, 5, &a), "Get": gets(0, 2, &a), "Len": counted(0, &a), "Clear": clears(0),
		"all": func(f *frame.Frame) { everyOff(t, f, 0, 2) },
	} {
		words := []int64{4, 5, 70, 71}
		m := filled(words...)
		f, off := frame.New(m), false
		a = none
		done := f.Step(0, func(f *frame.Frame) {
			f.Load(0)
			call(f)
			off = f.Off()
		})
		if done || !off || f.Steps() != 1 || a != none {
			t.Errorf("%s: done %t, off %t, %d accesses, %v", name, done, off, f.Steps(), a)
		}
		holds(t, m, words)
	}
}

// addresses are some of a memory of 20 words, and some that are none.
var addresses = []int{0, 1, 7, 12, 16, 17, 18, 19, 20, 21, 3999, 4000, -1, -2, -3, -4, -18, -4000, 1 << 32,
	math.MaxInt, math.MaxInt - 1, math.MaxInt - 2, math.MaxInt - 17, math.MinInt, math.MinInt + 1}

// sizes are some that a ring may have.
var sizes = []int{1, 2, 3, 15, 16}

// R1, P8.1 with P2.1: a nil frame, and one out of a step, are off: nothing is done.
func TestWithoutAStep(t *testing.T) {
	words := strange(20)
	words[0], words[1] = 4, 5
	m := filled(words...)
	fresh, over, done := frame.New(m), frame.New(m), frame.New(m)
	over.Step(0, func(f *frame.Frame) { f.Load(0); f.Load(0) })
	done.Step(0, func(f *frame.Frame) { f.Load(0) })
	for _, f := range []*frame.Frame{nil, fresh, over, done, new(frame.Frame)} {
		steps := f.Steps()
		for _, c := range append(slices.Clone(sizes), noSizes...) {
			for _, at := range addresses {
				everyOff(t, f, at, c)
			}
		}
		if f.Steps() != steps {
			t.Errorf("%d accesses", f.Steps()-steps)
		}
		holds(t, m, words)
	}
}

// P8.1: nothing is done of a c that is no size: no access, and 0, false, with words in the ring
// and without.
func TestSizesThatAreNone(t *testing.T) {
	for _, length := range []int64{0, 1, 2} {
		for _, c := range noSizes {
			words := append([]int64{4, 4 + length}, strange(40)...)
			m := filled(words...)
			f := frame.New(m)
			done := f.Step(0, func(f *frame.Frame) {
				if ring.Put(f, 0, c, 7) {
					t.Errorf("Put of the size %d: true", c)
				}
				if v, ok := ring.Get(f, 0, c); v != 0 || ok {
					t.Errorf("Get of the size %d: %d, %t", c, v, ok)
				}
				if f.Off() {
					t.Errorf("the size %d: off", c)
				}
			})
			if !done || f.Steps() != 0 {
				t.Errorf("the size %d: done %t, %d accesses", c, done, f.Steps())
			}
			holds(t, m, words)
		}
	}
}

// everyCall does every call: each ends, with the accesses that the chapter names, and what stands
// beside a false is 0.
func everyCall(t *testing.T, m *word.Mem, at, c int) {
	t.Helper()
	for i := range int64(3) {
		ok, did := put(t, m, at, c, 40+i)
		if did != 2 && did != 4 || ok != (did == 4) {
			t.Errorf("Put of %d, %d: %t, %d accesses", at, c, ok, did)
		}
		if n := length(t, m, at); n < 0 {
			t.Errorf("Len of %d: %d", at, n)
		}
		a, did := get(t, m, at, c)
		if did != 2 && did != 4 || a.ok != (did == 4) || !a.ok && a != none {
			t.Errorf("Get of %d, %d: %v, %d accesses", at, c, a, did)
		}
	}
	if did := play(t, m, clears(at)); did != 2 {
		t.Errorf("Clear of %d: %d accesses", at, did)
	}
}

// R1, P8.1 with P2.1: of an address that is none a word is 0, and nothing is written: a ring that
// isn't there is always empty, so that each Put is done, with the accesses of one, and each Get
// finds none.
func TestAddressThatIsNone(t *testing.T) {
	for _, m := range []*word.Mem{nil, word.New(0), new(word.Mem)} {
		for _, at := range addresses {
			for _, c := range sizes {
				everyCall(t, m, at, c)
				if ok, did := put(t, m, at, c, 5); !ok || did != 4 {
					t.Errorf("Put of %d: %t, %d accesses", at, ok, did)
				}
				if a, did := get(t, m, at, c); a != none || did != 2 {
					t.Errorf("Get of %d: %v, %d accesses", at, a, did)
				}
				if n := length(t, m, at); n != 0 {
					t.Errorf("Len of %d: %d", at, n)
				}
			}
		}
	}
	for _, at := range addresses {
		for _, c := range sizes {
			m := filled(strange(20)...)
			everyCall(t, m, at, c)
			if at >= 20 || at < -18 {
				holds(t, m, strange(20))
			}
		}
	}
}

// P8.1 with P2.1: a ring that lies half beyond the memory's end: its counts are there, and of its
// words those that aren't are 0.
func TestRingBeyondTheEnd(t *testing.T) {
	m := filled(-5, 0, 0, -6)
	for i := range int64(3) {
		if ok, _ := put(t, m, 1, 3, 40+i); !ok {
			t.Errorf("Put %d: false", i)
		}
	}
	holds(t, m, []int64{-5, 0, 3, 40})
	for _, want := range []int64{40, 0, 0} {
		if a, _ := get(t, m, 1, 3); a != (answer{want, true}) {
			t.Errorf("Get: %v, want %d", a, want)
		}
	}
	holds(t, m, []int64{-5, 3, 3, 40})
}

// R1: counts that no calls can have left there: more taken than put, or more there than have room.
// Nobody is led out of the ring; in one with too many nothing is put, in one with less than none
// there are none.
func TestCountsThatNoCallsLeave(t *testing.T) {
	counts := append([]int64{3, 17, 18, 100, -17, -3, -100, 1 << 62, -1 << 62, -1<<62 - 1, -1<<62 + 1, 1 << 40}, begins...)
	for _, c := range sizes {
		for _, taken := range counts {
			for _, given := range counts {
				there := given - taken
				words := strange(c + 4)
				words[1], words[2] = taken, given
				m := filled(words...)
				if n := length(t, m, 1); int64(n) != max(there, 0) {
					t.Errorf("Len of %d, %d: %d", taken, given, n)
				}
				if ok, _ := put(t, m, 1, c, 7); ok != (there < int64(c)) {
					t.Errorf("Put of %d, %d, size %d: %t", taken, given, c, ok)
				}
				inside(t, words, m.Words(), 2)
				if a, _ := get(t, filled(words...), 1, c); a.ok != (there > 0) {
					t.Errorf("Get of %d, %d, size %d: %v", taken, given, c, a)
				}
				for range 3 {
					everyCall(t, m, 1, c)
					now := m.Words()
					if now[0] != words[0] || now[c+3] != words[c+3] {
						t.Errorf("out of the ring: %v", now)
					}
				}
			}
		}
	}
}

// inside fails the test, unless at most the ring's put count, at that address, and one of the
// words behind it have changed, but not the memory's last one.
func inside(t *testing.T, before, behind []int64, count int) {
	t.Helper()
	last := len(before) - 1
	if changed(before[:count], behind[:count]) > 0 || behind[last] != before[last] || changed(before, behind) > 2 {
		t.Errorf("%v, then %v", before, behind)
	}
}

// R2, R3: what a call answers depends on its arguments and its frame's accesses alone: not on
// rings of other memories, nor on what was called ahead of it.
func TestSameHistorySameAnswers(t *testing.T) {
	other := newModel(0, 1, 2)
	run := func() ([]int64, []int64) {
		s := newModel(5, 1, 3)
		var seen []int64
		for i := range int64(12) {
			s.put(t, 0, i)
			s.put(t, 0, i+50)
			other.put(t, 0, i)
			other.get(t, 0)
			seen = append(seen, s.get(t, 0).v)
		}
		return s.mem.Words(), seen
	}
	words, seen := run()
	again, seenAgain := run()
	if !slices.Equal(words, again) || !slices.Equal(seen, seenAgain) {
		t.Errorf("%v, then %v", seen, seenAgain)
	}
}
