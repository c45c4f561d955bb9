package symbols_test

import (
	"math"
	"math/rand"
	"slices"
	"strings"
	"testing"

	"lexprior/api"
	"lexprior/symbols"
)

// TestExamples: those of the chapter.
func TestExamples(t *testing.T) {
	table := tableOf(t, 9, "b", "a")
	wantAdd(t, table, "b", 0, api.OK)
	if numbers := table.Sorted(); !slices.Equal(numbers, []int{1, 0}) {
		t.Errorf("example 1: Sorted: %d", numbers)
	}
	wantAdd(t, table, "B", 0, api.ErrSymbol)
	small := newTable(t, 1)
	wantAdd(t, small, "a", 0, api.OK)
	wantAdd(t, small, "b", 0, api.ErrFull)
	wantAdd(t, small, "a", 0, api.OK)
}

func TestNew(t *testing.T) {
	for _, most := range []int{1, 2, 32, 4095, 4096} {
		wantAll(t, newTable(t, most), &model{most: most})
	}
	for _, most := range []int{0, -1, -4096, 4097, 4098, 65536, math.MaxInt32, math.MinInt32, math.MaxInt, math.MinInt, 1<<32 + 1} {
		if table, errno := symbols.New(most); table != nil || errno != api.ErrRange {
			t.Errorf("P7.1: New(%d): %v, %d", most, table, errno)
		}
	}
}

func TestAdd(t *testing.T) {
	longest := strings.Repeat("z", 32)
	names := []string{"b", "a", "a_1", longest, "a1", "zz", "z"}
	table := tableOf(t, 8, names...)
	m := &model{8, names}
	wantAll(t, table, m)
	for _, wrong := range []string{"", "B", "1a", "_a", "aB", "a b", "é", "a\x80", "a\n", longest + "z", strings.Repeat("z", 4096)} {
		wantAdd(t, table, wrong, 0, api.ErrSymbol)
	}
	wantAll(t, table, m)
	for n, name := range names {
		wantAdd(t, table, name, n, api.OK)
	}
	wantAll(t, table, m)
}

// TestAddsErrorsInOrder: no name ahead of a full table, and a name that is there ahead of both.
func TestAddsErrorsInOrder(t *testing.T) {
	table := tableOf(t, 2, "b", "a")
	wantAdd(t, table, "B", 0, api.ErrSymbol)
	wantAdd(t, table, "", 0, api.ErrSymbol)
	wantAdd(t, table, "c", 0, api.ErrFull)
	wantAdd(t, table, "a", 1, api.OK)
	wantAdd(t, table, "b", 0, api.OK)
	wantAdd(t, table, "c", 0, api.ErrFull)
	wantAll(t, table, &model{2, []string{"b", "a"}})
}

// TestMostNames: tables with the most names that they may have.
func TestMostNames(t *testing.T) {
	for _, most := range []int{1, 2, 3, 64, 4096} {
		names := someNames(rand.New(rand.NewSource(int64(most))), most+1)
		table := tableOf(t, most, names[:most]...)
		wantAdd(t, table, names[most], 0, api.ErrFull)
		wantFind(t, table, names[most], 0, false)
		for n, name := range names[:most] {
			wantAdd(t, table, name, n, api.OK)
		}
		wantAll(t, table, &model{most, names[:most]})
	}
}

func TestFind(t *testing.T) {
	table := tableOf(t, 4, "b", "a")
	wantFind(t, table, "b", 0, true)
	wantFind(t, table, "a", 1, true)
	for _, none := range []string{"c", "ab", "bb", "", "B", "A", "_", "1", "a ", "a\x00", "\xff", strings.Repeat("a", 33)} {
		wantFind(t, table, none, 0, false)
	}
	wantAdd(t, table, "c", 2, api.OK)
	wantFind(t, table, "c", 2, true)
	wantFind(t, newTable(t, 1), "a", 0, false)
	wantFind(t, newTable(t, 1), "", 0, false)
}

func TestName(t *testing.T) {
	table := tableOf(t, 4096, "b", "a", "c")
	for n, name := range []string{"b", "a", "c"} {
		wantName(t, table, n, name, api.OK)
	}
	for _, n := range []int{-1, 3, 4, -2, 4095, 4096, math.MaxInt, math.MinInt, 1 << 32, -1 << 32} {
		wantName(t, table, n, "", api.ErrArg)
		wantName(t, newTable(t, 3), n, "", api.ErrArg)
	}
	wantName(t, newTable(t, 3), 0, "", api.ErrArg)
}

// TestSortedAnew: behind each name that comes, wherever it belongs.
func TestSortedAnew(t *testing.T) {
	names := []string{"m", "z", "a", "n", "m_", "m0", "ma", "mm", "b", "y", "z9", "a_", "l"}
	table := newTable(t, len(names))
	m := &model{most: len(names)}
	if numbers := table.Sorted(); len(numbers) != 0 {
		t.Errorf("P7.2: Sorted of an empty table: %d", numbers)
	}
	for n, name := range names {
		wantAdd(t, table, name, n, api.OK)
		m.add(name)
		for range 2 {
			if numbers := table.Sorted(); !slices.Equal(numbers, m.sorted()) {
				t.Errorf("P7.2: Sorted behind %q: %d, want %d", name, numbers, m.sorted())
			}
		}
		wantAdd(t, table, names[0], 0, api.OK)
		wantAdd(t, table, "X", 0, api.ErrSymbol)
		wantAll(t, table, m)
	}
	wantAdd(t, table, "full", 0, api.ErrFull)
	wantAll(t, table, m)
}

// TestSortedByBytes: digits ahead of _ , that ahead of letters, and a name ahead of what goes on from it.
func TestSortedByBytes(t *testing.T) {
	table := tableOf(t, 9, "aa", "a_", "a9", "a0", "a", "ab", "b", "a_a", "a_0")
	if numbers := table.Sorted(); !slices.Equal(numbers, []int{4, 3, 2, 1, 8, 7, 0, 5, 6}) {
		t.Errorf("P7.2: Sorted: %d", numbers)
	}
}

// TestUnmade: tables that no New made, for every call; that is told ahead of all else.
func TestUnmade(t *testing.T) {
	for kind, table := range map[string]*symbols.Table{"nil": nil, "zero": new(symbols.Table)} {
		for range 2 {
			for _, name := range []string{"a", "b", "", "B", "\xff", strings.Repeat("a", 33)} {
				wantAdd(t, table, name, 0, api.ErrMade)
				wantFind(t, table, name, 0, false)
			}
			for _, n := range []int{-1, 0, 1, math.MaxInt, math.MinInt} {
				wantName(t, table, n, "", api.ErrMade)
			}
			if table.Len() != 0 || len(table.Names()) != 0 || len(table.Sorted()) != 0 {
				t.Errorf("P7.2: a %s table: Len %d, Names %q, Sorted %d", kind, table.Len(), table.Names(), table.Sorted())
			}
			if other := table.Copy(); other != nil {
				t.Errorf("P7.2: Copy of a %s table: %v", kind, other)
			}
		}
	}
}
