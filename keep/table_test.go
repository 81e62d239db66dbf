package keep_test

import (
	"sync"
	"testing"

	"rill/keep"
)

func TestTableKeeps(t *testing.T) {
	table := keep.New[string, int](2)
	if value, ok := table.Get("one"); value != 0 || ok {
		t.Errorf("an empty table keeps %d %t", value, ok)
	}
	table.Keep("one", 1)
	table.Keep("none", 0)
	for key, want := range map[string]int{"one": 1, "none": 0} {
		if value, ok := table.Get(key); value != want || !ok {
			t.Errorf("Get(%q) = %d %t, want %d true", key, value, ok, want)
		}
	}
}

// A table has a bound, and what was kept last is always there.
func TestTableIsBounded(t *testing.T) {
	const most = 5
	table := keep.New[int, int](most)
	for n := range 100 {
		table.Keep(n, n*n)
		if value, ok := table.Get(n); value != n*n || !ok {
			t.Fatalf("Get(%d) = %d %t", n, value, ok)
		}
		kept := 0
		for key := range 100 {
			if value, ok := table.Get(key); ok {
				kept++
				if value != key*key {
					t.Fatalf("Get(%d) = %d", key, value)
				}
			}
		}
		if kept > most {
			t.Fatalf("%d are kept", kept)
		}
	}
}

func TestTableAtTheSameTime(t *testing.T) {
	table := keep.New[int, int](10)
	var all sync.WaitGroup
	for range 8 {
		all.Go(func() {
			for n := range 2000 {
				table.Keep(n%30, n%30+1)
				if value, ok := table.Get(n % 7); ok && value != n%7+1 {
					t.Errorf("Get(%d) = %d", n%7, value)
				}
			}
		})
	}
	all.Wait()
}
