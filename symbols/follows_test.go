package symbols_test

import (
	"math/rand"
	"slices"
	"testing"

	"lexprior/api"
	"lexprior/symbols"
)

// checkFollows: P7.4 of a table, told by its own answers alone.
func checkFollows(t *testing.T, table *symbols.Table) {
	t.Helper()
	names, numbers := table.Names(), table.Sorted()
	if len(names) != table.Len() || len(numbers) != table.Len() {
		t.Fatalf("P7.4: Len %d, but %d names, %d numbers", table.Len(), len(names), len(numbers))
	}
	for n, name := range names {
		found, there := table.Find(name)
		back, errno := table.Name(found)
		again, _ := table.Name(n)
		if found != n || !there || back != name || again != name || errno != api.OK {
			t.Errorf("P7.4: of %q, number %d: Find %d, %t; Name %q, %d", name, n, found, there, back, errno)
		}
		wantAdd(t, table, name, n, api.OK)
	}
	seen := make([]bool, len(names))
	for at, n := range numbers {
		if n < 0 || n >= len(names) || seen[n] {
			t.Fatalf("P7.4: Sorted has %d amiss: %d", n, numbers)
		}
		seen[n] = true
		if at > 0 && names[numbers[at-1]] >= names[n] {
			t.Errorf("P7.4: Sorted: %q ahead of %q", names[numbers[at-1]], names[n])
		}
	}
}

// pair is a table with its model.
type pair struct {
	table *symbols.Table
	model *model
}

// step does one thing by chance to one of the pairs; what it may add is out of names.
func step(t *testing.T, chance *rand.Rand, pairs []pair, names []string) []pair {
	p := pairs[chance.Intn(len(pairs))]
	name := names[chance.Intn(len(names))]
	switch chance.Intn(8) {
	case 0:
		if numbers := p.table.Sorted(); !slices.Equal(numbers, p.model.sorted()) {
			t.Errorf("P7.4: Sorted: %d, want %d", numbers, p.model.sorted())
		}
	case 1:
		if len(pairs) < 5 {
			return append(pairs, pair{p.table.Copy(), p.model.copied()})
		}
	case 2:
		n := slices.Index(p.model.names, name)
		wantFind(t, p.table, name, max(n, 0), n >= 0)
	default:
		n, errno := p.model.add(name)
		wantAdd(t, p.table, name, n, errno)
	}
	return pairs
}

// TestScripts: tables and their copies through calls by chance, held against their models.
func TestScripts(t *testing.T) {
	chance := rand.New(rand.NewSource(7))
	for range 300 {
		most := 1 + chance.Intn(20)
		names := append(someNames(chance, 1+chance.Intn(25)), "", "X", "1", "_", "a\xff")
		pairs := []pair{{newTable(t, most), &model{most: most}}}
		for range 60 {
			pairs = step(t, chance, pairs, names)
		}
		for _, p := range pairs {
			wantAll(t, p.table, p.model)
			checkFollows(t, p.table)
			wantAll(t, p.table, p.model)
		}
	}
}

// TestNumbersStay: a name's number is the same ever after, whatever comes behind it.
func TestNumbersStay(t *testing.T) {
	names := someNames(rand.New(rand.NewSource(8)), 400)
	table := newTable(t, 400)
	for many, name := range names {
		wantAdd(t, table, name, many, api.OK)
		for n, earlier := range names[:many+1] {
			wantAdd(t, table, earlier, n, api.OK)
			wantFind(t, table, earlier, n, true)
		}
	}
	checkFollows(t, table)
}

// TestFollowsOfTheGreatest: of a table with as many names as there may be.
func TestFollowsOfTheGreatest(t *testing.T) {
	table := tableOf(t, api.MaxLits, someNames(rand.New(rand.NewSource(9)), api.MaxLits)...)
	checkFollows(t, table)
	checkFollows(t, table.Copy())
}
