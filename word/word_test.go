package word_test

import (
	"math"
	"slices"
	"testing"

	"septum/api"
	"septum/word"
)

// filled makes a memory that holds the given words.
func filled(t *testing.T, words ...int64) *word.Mem {
	t.Helper()
	m := word.New(len(words))
	for a, v := range words {
		if e := m.Store(a, v); e != api.OK {
			t.Fatalf("Store(%d, %d): %v", a, v, e)
		}
	}
	return m
}

// holds fails the test, unless m holds just the given words, by Len, Words and Load alike.
func holds(t *testing.T, m *word.Mem, want ...int64) {
	t.Helper()
	if m.Len() != len(want) {
		t.Errorf("Len: %d, want %d", m.Len(), len(want))
	}
	if got := m.Words(); !slices.Equal(got, want) {
		t.Errorf("Words: %v, want %v", got, want)
	}
	for a, v := range want {
		if got, e := m.Load(a); got != v || e != api.OK {
			t.Errorf("Load(%d): %d, %v, want %d", a, got, e, v)
		}
	}
}

// outside are addresses that no memory of n words has.
func outside(n int) []int {
	return []int{-1, n, n + 1, -n - 1, api.MaxWords, math.MinInt, math.MaxInt, 1 << 32, -1 << 32}
}

// P1.1: New and Len.
func TestNewMakesWordsOfZero(t *testing.T) {
	sizes := []struct{ n, want int }{
		{0, 0}, {1, 1}, {2, 2}, {17, 17},
		{api.MaxWords - 1, api.MaxWords - 1}, {api.MaxWords, api.MaxWords},
		{api.MaxWords + 1, api.MaxWords}, {math.MaxInt, api.MaxWords},
		{-1, 0}, {-api.MaxWords, 0}, {math.MinInt, 0},
	}
	for _, s := range sizes {
		m := word.New(s.n)
		if m == nil {
			t.Fatalf("New(%d) is nil", s.n)
		}
		holds(t, m, make([]int64, s.want)...)
	}
}

// P1.1: two memories have nothing in common.
func TestNewIsApart(t *testing.T) {
	m, other := word.New(2), word.New(2)
	m.Store(0, 7)
	holds(t, m, 7, 0)
	holds(t, other, 0, 0)
}

// P1.1: Load.
func TestLoadAnswersTheWordAndChangesNothing(t *testing.T) {
	m := filled(t, 4, -5, 6)
	for range 2 {
		if v, e := m.Load(1); v != -5 || e != api.OK {
			t.Errorf("Load(1): %d, %v", v, e)
		}
	}
	holds(t, m, 4, -5, 6)
}

// P1.1: Store.
func TestStoreChangesOneWord(t *testing.T) {
	m := filled(t, 1, 2, 3)
	for _, v := range []int64{9, -9, 0, math.MaxInt64, math.MinInt64} {
		if e := m.Store(1, v); e != api.OK {
			t.Errorf("Store(1, %d): %v", v, e)
		}
		holds(t, m, 1, v, 3)
	}
}

// P1.1: Add, with the chapter's examples.
func TestAddAnswersWhatItWas(t *testing.T) {
	m := word.New(2)
	if v, e := m.Add(0, 5); v != 0 || e != api.OK {
		t.Errorf("Add(0, 5): %d, %v", v, e)
	}
	if v, e := m.Add(0, -1); v != 5 || e != api.OK {
		t.Errorf("Add(0, -1): %d, %v", v, e)
	}
	if v, e := m.Add(0, 0); v != 4 || e != api.OK {
		t.Errorf("Add(0, 0): %d, %v", v, e)
	}
	holds(t, m, 4, 0)
}

// DOC.md, Words: arithmetic on words goes round at both ends.
func TestAddGoesRound(t *testing.T) {
	sums := []struct{ was, d, is int64 }{
		{math.MaxInt64, 1, math.MinInt64},
		{math.MinInt64, -1, math.MaxInt64},
		{math.MaxInt64, math.MaxInt64, -2},
		{math.MinInt64, math.MinInt64, 0},
		{math.MaxInt64, math.MinInt64, -1},
		{0, math.MinInt64, math.MinInt64},
		{-1, math.MinInt64, math.MaxInt64},
		{1 << 53, 1, 1<<53 + 1},
	}
	for _, s := range sums {
		m := filled(t, 3, s.was, 3)
		if v, e := m.Add(1, s.d); v != s.was || e != api.OK {
			t.Errorf("Add(1, %d) to %d: %d, %v", s.d, s.was, v, e)
		}
		holds(t, m, 3, s.is, 3)
	}
}

// P1.1: Swap.
func TestSwapWhereTheWordIsOld(t *testing.T) {
	swaps := []struct{ was, fresh int64 }{
		{0, 1}, {5, 5}, {-2, 0},
		{math.MaxInt64, math.MinInt64}, {math.MinInt64, math.MaxInt64},
	}
	for _, s := range swaps {
		m := filled(t, 3, s.was, 3)
		if ok, e := m.Swap(1, s.was, s.fresh); !ok || e != api.OK {
			t.Errorf("Swap(1, %d, %d): %t, %v", s.was, s.fresh, ok, e)
		}
		holds(t, m, 3, s.fresh, 3)
	}
}

// P1.1: Swap of a word that is another changes nothing, and is no error.
func TestSwapWhereTheWordIsAnother(t *testing.T) {
	swaps := []struct{ was, old, fresh int64 }{
		{1, 0, 9}, {1, -1, 1}, {0, 9, 0},
		{math.MaxInt64, math.MinInt64, 1}, {1 << 32, 0, 1}, {1<<53 + 1, 1 << 53, 1},
	}
	for _, s := range swaps {
		m := filled(t, 3, s.was, 3)
		if ok, e := m.Swap(1, s.old, s.fresh); ok || e != api.OK {
			t.Errorf("Swap(1, %d, %d) of %d: %t, %v", s.old, s.fresh, s.was, ok, e)
		}
		holds(t, m, 3, s.was, 3)
	}
}

// P1.1: the first and the last word of the greatest memory are words like others.
func TestWordsAtBothEnds(t *testing.T) {
	m := word.New(api.MaxWords)
	for _, a := range []int{0, api.MaxWords - 1} {
		if e := m.Store(a, 5); e != api.OK {
			t.Errorf("Store(%d): %v", a, e)
		}
		if v, e := m.Add(a, 1); v != 5 || e != api.OK {
			t.Errorf("Add(%d): %d, %v", a, v, e)
		}
		if ok, e := m.Swap(a, 6, 7); !ok || e != api.OK {
			t.Errorf("Swap(%d): %t, %v", a, ok, e)
		}
		if v, e := m.Load(a); v != 7 || e != api.OK {
			t.Errorf("Load(%d): %d, %v", a, v, e)
		}
	}
}

// refuses fails the test, unless each access of m at a answers ErrRange, and zero beside it.
func refuses(t *testing.T, m *word.Mem, a int) {
	t.Helper()
	if v, e := m.Load(a); v != 0 || e != api.ErrRange {
		t.Errorf("Load(%d): %d, %v", a, v, e)
	}
	if e := m.Store(a, 8); e != api.ErrRange {
		t.Errorf("Store(%d, 8): %v", a, e)
	}
	if v, e := m.Add(a, 8); v != 0 || e != api.ErrRange {
		t.Errorf("Add(%d, 8): %d, %v", a, v, e)
	}
	// Of 0 for 0: an address that is none must not count as a word of 0.
	if ok, e := m.Swap(a, 0, 0); ok || e != api.ErrRange {
		t.Errorf("Swap(%d, 0, 0): %t, %v", a, ok, e)
	}
	if ok, e := m.Swap(a, 4, 8); ok || e != api.ErrRange {
		t.Errorf("Swap(%d, 4, 8): %t, %v", a, ok, e)
	}
}

// P1.1, R1, R5: an address that is none is ErrRange, and changes nothing.
func TestAddressesThatAreNone(t *testing.T) {
	m := filled(t, 4, 4, 4)
	for _, a := range outside(3) {
		refuses(t, m, a)
	}
	holds(t, m, 4, 4, 4)
	for _, a := range append(outside(api.MaxWords), outside(0)...) {
		if a < 0 || a >= api.MaxWords {
			refuses(t, word.New(api.MaxWords), a)
		}
	}
}

// P1.1, R1, R4: a memory without words, made or not, answers ErrRange at every address.
func TestNoWords(t *testing.T) {
	for _, m := range []*word.Mem{nil, new(word.Mem), word.New(0), word.New(-3)} {
		for _, a := range append(outside(0), 1, 2) {
			refuses(t, m, a)
		}
		if m.Len() != 0 || len(m.Words()) != 0 {
			t.Errorf("Len %d, Words %v", m.Len(), m.Words())
		}
	}
}

// R3: what Words answers is new memory, its spare room too.
func TestWordsIsACopy(t *testing.T) {
	m := filled(t, 1, 2, 3)
	first, second := m.Words(), m.Words()
	for i := range first {
		first[i] = 99
	}
	_ = append(first, 99)
	if !slices.Equal(second, []int64{1, 2, 3}) {
		t.Errorf("another answer changed: %v", second)
	}
	holds(t, m, 1, 2, 3)

	for _, v := range first[:cap(first)][len(first):] {
		if v != 0 {
			t.Errorf("spare room holds %d", v)
		}
	}
	m.Store(0, 55)
	if first[0] != 99 || second[0] != 1 {
		t.Errorf("answers follow the memory: %v, %v", first, second)
	}
}

// R2: the same calls answer the same, whatever other memories there are.
func TestSameCallsAnswerTheSame(t *testing.T) {
	play := func(between func()) []int64 {
		m := word.New(3)
		var seen []int64
		for i := range 60 {
			between()
			d := int64(i)*int64(i) - 7
			was, _ := m.Add(i%4, d)
			ok, _ := m.Swap((i+1)%4, was, d)
			v, e := m.Load((i + 2) % 4)
			if ok {
				seen = append(seen, 1)
			}
			seen = append(seen, was, v, int64(e))
		}
		return append(seen, m.Words()...)
	}
	other := word.New(3)
	alone := play(func() {})
	beside := play(func() { other.Add(0, 3); other.Store(2, 1) })
	if !slices.Equal(alone, beside) {
		t.Errorf("%v, then %v", alone, beside)
	}
}
