package symbols_test

import (
	"math/rand"
	"slices"
	"sync"
	"testing"

	"lexprior/api"
	"lexprior/symbols"
)

// together: many do the same at one time, none ahead of the last that is ready.
func together(many int, do func(worker int)) {
	var ready, done sync.WaitGroup
	ready.Add(many)
	for worker := range many {
		done.Go(func() {
			ready.Done()
			ready.Wait()
			do(worker)
		})
	}
	done.Wait()
}

// askAll: every call that asks; one of them first, another for each worker.
func askAll(t *testing.T, table *symbols.Table, m *model, sorted []int, worker int) {
	for turn := range 5 {
		switch (worker + turn) % 5 {
		case 0:
			if numbers := table.Sorted(); !slices.Equal(numbers, sorted) {
				t.Errorf("P7.3: Sorted, asked by many: %d, want %d", numbers, sorted)
			}
		case 1:
			if names := table.Names(); !slices.Equal(names, m.names) || table.Len() != len(m.names) {
				t.Errorf("P7.3: Names, asked by many: %q, want %q", names, m.names)
			}
		case 2:
			other := table.Copy()
			if numbers := other.Sorted(); !slices.Equal(numbers, sorted) {
				t.Errorf("P7.3: Sorted of a copy, asked by many: %d, want %d", numbers, sorted)
			}
			other.Add("x_" + string(rune('a'+worker)))
		case 3:
			for n, name := range m.names {
				wantFind(t, table, name, n, true)
				wantName(t, table, n, name, api.OK)
			}
			wantFind(t, table, "x_a", 0, false)
		case 4:
			if numbers := table.Sorted(); !slices.Equal(numbers, sorted) {
				t.Errorf("P7.3: Sorted, asked by many: %d, want %d", numbers, sorted)
			}
		}
	}
}

// TestManyAsk: tables that many ask at one time, of which nobody has asked for the list by name ahead of them.
func TestManyAsk(t *testing.T) {
	chance := rand.New(rand.NewSource(73))
	for _, size := range []int{0, 1, 2, 20, 100, 500, 4000} {
		names := someNames(chance, size)
		m := &model{most: api.MaxLits, names: names}
		sorted := m.sorted()
		for range 5 {
			table := tableOf(t, api.MaxLits, names...)
			together(16, func(worker int) { askAll(t, table, m, sorted, worker) })
			wantAll(t, table, m)
		}
	}
}

// TestManyAskBetweenNames: by turns a name comes, and many ask.
func TestManyAskBetweenNames(t *testing.T) {
	names := someNames(rand.New(rand.NewSource(74)), 60)
	table := newTable(t, 60)
	m := &model{most: 60}
	for _, name := range names {
		n, errno := m.add(name)
		wantAdd(t, table, name, n, errno)
		sorted := m.sorted()
		together(8, func(worker int) { askAll(t, table, m, sorted, worker) })
	}
}

// TestSameAnswers: two tables made by the same calls answer the same, alone and beside others.
func TestSameAnswers(t *testing.T) {
	names := someNames(rand.New(rand.NewSource(75)), 1000)
	m := &model{most: 1000, names: names}
	together(8, func(int) {
		table := tableOf(t, 1000, names...)
		if !slices.Equal(table.Sorted(), m.sorted()) || !slices.Equal(table.Names(), names) {
			t.Error("P3: a table made beside others answers otherwise")
		}
	})
}
