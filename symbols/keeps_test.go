package symbols_test

import (
	"runtime"
	"slices"
	"strings"
	"testing"
	"unsafe"

	"lexprior/api"
	"lexprior/symbols"
)

// loose: bytes, and the text that they are, so that the text can become another behind a call.
func loose(s string) ([]byte, string) {
	b := []byte(s)
	return b, unsafe.String(unsafe.SliceData(b), len(b))
}

// TestNamesAreNotKept: a name that becomes another behind Add leaves the table as it was.
func TestNamesAreNotKept(t *testing.T) {
	names := []string{"help", "b", strings.Repeat("x", 32)}
	table := newTable(t, 3)
	for n, s := range names {
		b, name := loose(s)
		wantAdd(t, table, name, n, api.OK)
		for i := range b {
			b[i] = '?'
		}
		wantAll(t, table, &model{3, names[:n+1]})
	}
}

// TestArgumentsAreNotChanged: the bytes of a name that is handed in stay.
func TestArgumentsAreNotChanged(t *testing.T) {
	table := newTable(t, 1)
	for _, s := range []string{"help", "Help", "", "other", "he\xfflp"} {
		b, name := loose(s)
		table.Add(name)
		table.Find(name)
		symbols.IsName(name)
		symbols.IsVar(name)
		if string(b) != s {
			t.Errorf("P7.5: %q became %q", s, b)
		}
	}
}

// answers are texts and lists that tables answered.
type answers struct {
	texts []string
	names [][]string
	lists [][]int
}

// ask: all that a table answers, twice.
func (a *answers) ask(table *symbols.Table) {
	for range 2 {
		names := table.Names()
		a.names = append(a.names, names)
		a.texts = append(a.texts, names...)
		a.lists = append(a.lists, table.Sorted())
		for n := range table.Len() {
			name, _ := table.Name(n)
			a.texts = append(a.texts, name)
		}
	}
}

// places: where the first bytes of the texts are, and the elements of the lists, up to their capacity.
func (a *answers) places() []uintptr {
	var all []uintptr
	for _, s := range a.texts {
		all = append(all, uintptr(unsafe.Pointer(unsafe.StringData(s))))
	}
	for _, list := range a.names {
		for i := range cap(list) {
			all = append(all, uintptr(unsafe.Pointer(&list[:cap(list)][i])))
		}
	}
	for _, list := range a.lists {
		for i := range cap(list) {
			all = append(all, uintptr(unsafe.Pointer(&list[:cap(list)][i])))
		}
	}
	return all
}

// TestAnswersShareNothing: with each other, with a name that was handed in, or with those of a copy.
func TestAnswersShareNothing(t *testing.T) {
	_, name := loose(strings.Repeat("y", 32))
	table := tableOf(t, 9, "a", "help", name, "b")
	all := &answers{texts: []string{name}}
	all.ask(table)
	all.ask(table.Copy())
	all.ask(table)
	places := all.places()
	slices.Sort(places)
	if many := len(places); len(slices.Compact(places)) != many {
		t.Error("P7.5: two answers share memory")
	}
	runtime.KeepAlive(all)
}

// spoil changes all that is there of a table's lists, up to their capacity.
func spoil(table *symbols.Table) {
	names, numbers := table.Names(), table.Sorted()
	names, numbers = names[:cap(names)], numbers[:cap(numbers)]
	for i := range names {
		names[i] = "spoilt"
	}
	for i := range numbers {
		numbers[i] = -7
	}
	_ = append(table.Names(), "more")
	_ = append(table.Sorted(), 77)
}

// spoilTexts changes the bytes of all names that a table answered.
func spoilTexts(table *symbols.Table) {
	texts := table.Names()
	for n := range table.Len() {
		name, _ := table.Name(n)
		texts = append(texts, name)
	}
	for _, s := range texts {
		b := unsafe.Slice(unsafe.StringData(s), len(s))
		for i := range b {
			b[i] = '?'
		}
	}
}

// TestAnswersThatAreChanged: by their caller, and asked anew.
func TestAnswersThatAreChanged(t *testing.T) {
	names := []string{"b", "help", "a", strings.Repeat("c", 32)}
	m := &model{5, names}
	var own []string
	for _, s := range names {
		_, name := loose(s)
		own = append(own, name)
	}
	table := tableOf(t, 5, own...)
	other := table.Copy()
	for range 3 {
		spoil(table)
		spoilTexts(table)
		wantAll(t, table, m)
		wantAll(t, other, m)
		spoil(other)
		spoilTexts(other)
		wantAll(t, table, m)
		wantAll(t, other, m)
	}
	wantAdd(t, table, "d", 4, api.OK)
	spoil(table)
	wantAll(t, table, &model{5, append(slices.Clone(names), "d")})
	wantAll(t, other, m)
}

// TestCopy: what comes into a table does not come into its copy, nor the other way.
func TestCopy(t *testing.T) {
	for _, asked := range []bool{false, true} {
		table := tableOf(t, 4, "m", "b")
		if asked {
			table.Sorted()
		}
		other := table.Copy()
		wantAll(t, other, &model{4, []string{"m", "b"}})
		wantAdd(t, table, "a", 2, api.OK)
		wantAll(t, other, &model{4, []string{"m", "b"}})
		wantFind(t, other, "a", 0, false)
		wantAdd(t, other, "z", 2, api.OK)
		wantAdd(t, other, "a", 3, api.OK)
		wantAdd(t, other, "c", 0, api.ErrFull)
		wantAll(t, table, &model{4, []string{"m", "b", "a"}})
		wantFind(t, table, "z", 0, false)
		wantAdd(t, table, "c", 3, api.OK)
		wantAdd(t, table, "z", 0, api.ErrFull)
		wantAll(t, table, &model{4, []string{"m", "b", "a", "c"}})
		wantAll(t, other, &model{4, []string{"m", "b", "z", "a"}})
		third := other.Copy()
		wantAll(t, third, &model{4, []string{"m", "b", "z", "a"}})
		wantAdd(t, third, "c", 0, api.ErrFull)
	}
}

// TestCopyOfAnEmptyOne: it has the same room.
func TestCopyOfAnEmptyOne(t *testing.T) {
	table := newTable(t, 1)
	other := table.Copy()
	if other == nil || other == table {
		t.Fatalf("P7.2: Copy of an empty table: %v", other)
	}
	wantAll(t, other, &model{most: 1})
	wantAdd(t, other, "b", 0, api.OK)
	wantAdd(t, other, "a", 0, api.ErrFull)
	wantAll(t, table, &model{most: 1})
	wantAdd(t, table, "a", 0, api.OK)
	wantAll(t, other, &model{1, []string{"b"}})
}
