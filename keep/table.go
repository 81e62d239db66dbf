// Package keep: a table of what was worked once, so that it need not be worked again.
package keep

import "sync"

// Table keeps values by keys. Many goroutines may ask it at the same time. Make it by New.
type Table[K comparable, V any] struct {
	lock sync.Mutex
	rows map[K]V
	most int
}

// New makes an empty table that keeps so many values at most, 1 or more.
func New[K comparable, V any](most int) *Table[K, V] {
	return &Table[K, V]{rows: map[K]V{}, most: most}
}

// Get answers what is kept by a key, and whether anything is.
func (t *Table[K, V]) Get(key K) (V, bool) {
	t.lock.Lock()
	defer t.lock.Unlock()
	value, ok := t.rows[key]
	return value, ok
}

// Keep keeps a value. A full table begins anew: whatever it forgets can be worked again.
func (t *Table[K, V]) Keep(key K, value V) {
	t.lock.Lock()
	defer t.lock.Unlock()
	if len(t.rows) >= t.most {
		clear(t.rows)
	}
	t.rows[key] = value
}
