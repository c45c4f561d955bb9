package theory_test

import (
	"fmt"
	"slices"
	"testing"

	"lexprior/api"
	"lexprior/theory"
)

// rule: a defeasible one.
func rule(head int, body ...int) api.Rule {
	return api.Rule{Kind: api.Defeasible, Head: head, Body: body}
}

// plain: a theory of so many literals and these rules, without foes.
func plain(lits int, rules ...api.Rule) api.Theory {
	return api.Theory{Lits: lits, Foes: make([][]int, lits), Rules: rules, Beats: make([][]int, len(rules))}
}

// enemies: these literals become foes of each other.
func enemies(t *api.Theory, lits ...int) {
	for _, a := range lits {
		for _, b := range lits {
			if place, there := slices.BinarySearch(t.Foes[a], b); a != b && !there {
				t.Foes[a] = slices.Insert(t.Foes[a], place, b)
			}
		}
	}
}

// house has all that a theory can have: literals 0, 1, 2 are foes, and 3 and 4; 5 has none.
func house() api.Theory {
	t := plain(6,
		api.Rule{Kind: api.Strict, Head: 0, Body: []int{5}},
		api.Rule{Kind: api.Defeasible, Head: 1, Body: []int{3, 5}},
		api.Rule{Kind: api.Defeater, Head: 2},
		api.Rule{Kind: api.Defeasible, Head: 3, Body: []int{0}},
		api.Rule{Kind: api.Defeasible, Head: 4, Body: []int{1, 2, 5}},
		api.Rule{Kind: api.Strict, Head: 5},
		api.Rule{Kind: api.Defeasible, Head: 1},
	)
	enemies(&t, 0, 1, 2)
	enemies(&t, 3, 4)
	t.Beats = [][]int{{1, 2, 6}, {2}, {6}, {4}, {}, {}, {}}
	return t
}

// upTo: 0 to n - 1.
func upTo(n int) []int {
	var list []int
	for i := range n {
		list = append(list, i)
	}
	return list
}

// told: as much of it as a reader wants to see.
func told(thing any) string {
	return fmt.Sprintf("%.600s", fmt.Sprintf("%+v", thing))
}

func wantCheck(t testing.TB, what string, x api.Theory, errno api.Errno, at int) {
	t.Helper()
	if gotErrno, gotAt := theory.Check(x); gotErrno != errno || gotAt != at {
		t.Errorf("P12.1: %s: Check(%s): %d, %d, want %d, %d", what, told(x), gotErrno, gotAt, errno, at)
	}
}

func wantFacts(t testing.TB, x api.Theory, facts []int, errno api.Errno) {
	t.Helper()
	if got := theory.CheckFacts(x, facts); got != errno {
		t.Errorf("P12.1: CheckFacts(%s, %s): %d, want %d", told(x), told(facts), got, errno)
	}
}

func wantEncode(t testing.TB, x api.Theory, want []byte, errno api.Errno) {
	t.Helper()
	if got, gotErrno := theory.Encode(x); !slices.Equal(got, want) || gotErrno != errno {
		t.Errorf("P12.2: Encode(%s): % X, %d, want % X, %d", told(x), got, gotErrno, want, errno)
	}
}

func wantDecode(t testing.TB, what string, b []byte, want api.Theory, errno api.Errno, at int) {
	t.Helper()
	if got, gotErrno, gotAt := theory.Decode(b); !same(got, want) || gotErrno != errno || gotAt != at {
		t.Errorf("P12.2: %s: Decode(%s, %d bytes): %s, %d, %d, want %s, %d, %d", what, told(b), len(b), told(got), gotErrno, gotAt, told(want), errno, at)
	}
}

func wantFor(t testing.TB, x api.Theory, lit int, want []int, errno api.Errno) {
	t.Helper()
	if got, gotErrno := theory.For(x, lit); !slices.Equal(got, want) || gotErrno != errno {
		t.Errorf("P12.3: For(%s, %d): %d, %d, want %d, %d", told(x), lit, got, gotErrno, want, errno)
	}
}

// wantSize: of Size, and of Pairs too.
func wantSize(t testing.TB, x api.Theory, lits, premises, pairs int, errno api.Errno) {
	t.Helper()
	if l, b, p, gotErrno := theory.Size(x); l != lits || b != premises || p != pairs || gotErrno != errno {
		t.Errorf("P12.3: Size(%s): %d, %d, %d, %d, want %d, %d, %d, %d", told(x), l, b, p, gotErrno, lits, premises, pairs, errno)
	}
	if got, gotErrno := theory.Pairs(x); got != pairs || gotErrno != errno {
		t.Errorf("P12.3: Pairs(%s): %d, %d, want %d, %d", told(x), got, gotErrno, pairs, errno)
	}
}

func wantCone(t testing.TB, x api.Theory, lits, want []int, errno api.Errno) {
	t.Helper()
	if got, gotErrno := theory.Cone(x, lits); !slices.Equal(got, want) || gotErrno != errno {
		t.Errorf("P12.4: Cone(%s, %s): %s, %d, want %s, %d", told(x), told(lits), told(got), gotErrno, told(want), errno)
	}
}

func wantPart(t testing.TB, x api.Theory, lits []int, want api.Theory, rules []int, errno api.Errno) {
	t.Helper()
	if got, gotRules, gotErrno := theory.Part(x, lits); !same(got, want) || !slices.Equal(gotRules, rules) || gotErrno != errno {
		t.Errorf("P12.4: Part(%s, %s): %s, %s, %d, want %s, %s, %d", told(x), told(lits), told(got), told(gotRules), gotErrno, told(want), told(rules), errno)
	}
}

func wantLayers(t testing.TB, x api.Theory, want []int, many int, errno api.Errno) {
	t.Helper()
	if got, gotMany, gotErrno := theory.Layers(x); !slices.Equal(got, want) || gotMany != many || gotErrno != errno {
		t.Errorf("P12.5: Layers(%s): %s, %d, %d, want %s, %d, %d", told(x), told(got), gotMany, gotErrno, told(want), many, errno)
	}
}

// wantRefused: by every call that asks Check first.
func wantRefused(t testing.TB, x api.Theory, errno api.Errno) {
	t.Helper()
	wantEncode(t, x, nil, errno)
	wantSize(t, x, 0, 0, 0, errno)
	wantLayers(t, x, nil, 0, errno)
	for _, lit := range []int{0, -1, 1 << 40} {
		wantFor(t, x, lit, nil, errno)
		wantCone(t, x, []int{lit}, nil, errno)
		wantPart(t, x, []int{lit}, api.Theory{}, nil, errno)
	}
	wantCone(t, x, nil, nil, errno)
	wantPart(t, x, nil, api.Theory{}, nil, errno)
}
