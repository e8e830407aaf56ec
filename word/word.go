// Package word is layer 1: words of memory, one access each. See shared/doc/01-word.md.
package word

import (
	"septum/api"
)

// Mem is memory: a fixed number of words, told by their addresses, from 0 on.
type Mem struct {
	words []int64
}

// New makes a memory of n words of 0; an n outside 0 to api.MaxWords counts as the nearer end.
func New(n int) *Mem {
	return &Mem{words: make([]int64, min(max(n, 0), api.MaxWords))}
}

// Len tells how many words there are; a nil Mem has none.
func (m *Mem) Len() int {
	if m == nil {
		return 0
	}
	return len(m.words)
}

// has asks through Len, so that a nil Mem needs no question of its own in any access:
// it has no words, and so every address of it is out of range.
func (m *Mem) has(a int) bool {
	return a >= 0 && a < m.Len()
}

// Load answers the word a.
func (m *Mem) Load(a int) (int64, api.Errno) {
	if !m.has(a) {
		return 0, api.ErrRange
	}
	return m.words[a], api.OK
}

// Store makes v the word a.
func (m *Mem) Store(a int, v int64) api.Errno {
	if !m.has(a) {
		return api.ErrRange
	}
	m.words[a] = v
	return api.OK
}

// Add makes the word a greater by d, going round at both ends, and answers what it was.
func (m *Mem) Add(a int, d int64) (int64, api.Errno) {
	if !m.has(a) {
		return 0, api.ErrRange
	}
	was := m.words[a]
	m.words[a] = was + d
	return was, api.OK
}

// Swap makes fresh the word a, if it is old, and answers whether it was.
func (m *Mem) Swap(a int, old, fresh int64) (bool, api.Errno) {
	if !m.has(a) {
		return false, api.ErrRange
	}
	if m.words[a] != old {
		return false, api.OK
	}
	m.words[a] = fresh
	return true, api.OK
}

// Words answers a copy of all words, with no spare room.
func (m *Mem) Words() []int64 {
	if m.Len() == 0 {
		return nil
	}
	all := make([]int64, len(m.words))
	copy(all, m.words)
	return all
}
