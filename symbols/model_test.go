package symbols_test

import (
	"math/rand"
	"regexp"
	"slices"
	"sort"
	"strings"
	"testing"

	"lexprior/api"
	"lexprior/symbols"
)

// The words of the chapter, in another form than the program has them.
var (
	nameForm = regexp.MustCompile(`\A[a-z][a-z0-9_]{0,31}\z`)
	varForm  = regexp.MustCompile(`\A[A-Z][A-Za-z0-9_]{0,31}\z`)
)

// model is a table without a map or a list that is kept: everything is looked for anew.
type model struct {
	most  int
	names []string
}

func (m *model) add(name string) (int, api.Errno) {
	if !nameForm.MatchString(name) {
		return 0, api.ErrSymbol
	}
	if n := slices.Index(m.names, name); n >= 0 {
		return n, api.OK
	}
	if len(m.names) >= m.most {
		return 0, api.ErrFull
	}
	m.names = append(m.names, strings.Clone(name))
	return len(m.names) - 1, api.OK
}

// sorted: the numbers by names, found through a sorted list of the names themselves.
func (m *model) sorted() []int {
	names := slices.Clone(m.names)
	sort.Strings(names)
	var numbers []int
	for _, name := range names {
		numbers = append(numbers, slices.Index(m.names, name))
	}
	return numbers
}

func (m *model) copied() *model {
	return &model{m.most, slices.Clone(m.names)}
}

// newTable: an empty table, which there must be.
func newTable(t testing.TB, most int) *symbols.Table {
	t.Helper()
	table, errno := symbols.New(most)
	if table == nil || errno != api.OK {
		t.Fatalf("P7.1: New(%d): %v, %d", most, table, errno)
	}
	return table
}

// tableOf: a table to which these names are added.
func tableOf(t testing.TB, most int, names ...string) *symbols.Table {
	t.Helper()
	table := newTable(t, most)
	for n, name := range names {
		wantAdd(t, table, name, n, api.OK)
	}
	return table
}

func wantAdd(t testing.TB, table *symbols.Table, name string, want int, wantErrno api.Errno) {
	t.Helper()
	if n, errno := table.Add(name); n != want || errno != wantErrno {
		t.Errorf("P7.2: Add(%q): %d, %d; want %d, %d", name, n, errno, want, wantErrno)
	}
}

func wantFind(t testing.TB, table *symbols.Table, name string, want int, wantThere bool) {
	t.Helper()
	if n, there := table.Find(name); n != want || there != wantThere {
		t.Errorf("P7.2: Find(%q): %d, %t; want %d, %t", name, n, there, want, wantThere)
	}
}

func wantName(t testing.TB, table *symbols.Table, n int, want string, wantErrno api.Errno) {
	t.Helper()
	if name, errno := table.Name(n); name != want || errno != wantErrno {
		t.Errorf("P7.2: Name(%d): %q, %d; want %q, %d", n, name, errno, want, wantErrno)
	}
}

// wantAll: a table answers what a model of it says.
func wantAll(t testing.TB, table *symbols.Table, m *model) {
	t.Helper()
	if n := table.Len(); n != len(m.names) {
		t.Errorf("P7.2: Len: %d, want %d", n, len(m.names))
	}
	if names := table.Names(); !slices.Equal(names, m.names) {
		t.Errorf("P7.2: Names: %q, want %q", names, m.names)
	}
	if numbers := table.Sorted(); !slices.Equal(numbers, m.sorted()) {
		t.Errorf("P7.2: Sorted: %d, want %d", numbers, m.sorted())
	}
	for n, name := range m.names {
		wantFind(t, table, name, n, true)
		wantName(t, table, n, name, api.OK)
	}
	wantName(t, table, -1, "", api.ErrArg)
	wantName(t, table, len(m.names), "", api.ErrArg)
}

// someNames: so many names, each another, in no order.
func someNames(chance *rand.Rand, many int) []string {
	letters := "abcdefghijklmnopqrstuvwxyz0123456789_"
	var names []string
	there := map[string]bool{}
	for len(names) < many {
		b := []byte{letters[chance.Intn(26)]}
		for range chance.Intn(8) {
			b = append(b, letters[chance.Intn(len(letters))])
		}
		if name := string(b); !there[name] {
			there[name] = true
			names = append(names, name)
		}
	}
	return names
}
