package ground_test

import (
	"slices"
	"strings"
	"testing"

	"lexprior/api"
	"lexprior/ground"
)

// sized: kinds k0, k1, .. of so many members a0, a1, .., b0, .. each, with predicates of one argument on0, on1, .., of two at0, at1, .., numbers num0, .. of one and two0, .. of two; and the predicates p, q, r, s without arguments.
func sized(sizes ...int) string {
	text := "source act rank 1. pred p. pred q. pred r. pred s. number rate. amount pay : 1, 2, 3. pred x. pred y. pred z. class x, y, z.\n"
	for n, size := range sizes {
		kind := "k" + digits(n)
		text += "kind " + kind + ". pred on" + digits(n) + "(" + kind + "). pred at" + digits(n) + "(" + kind + "," + kind + "). "
		text += "number num" + digits(n) + "(" + kind + "). number two" + digits(n) + "(" + kind + "," + kind + "). "
		if size > 0 {
			var members []string
			for m := range size {
				members = append(members, string(rune('a'+n))+digits(m))
			}
			text += "member " + strings.Join(members, ", ") + " : " + kind + ".\n"
		}
	}
	return text
}

func of(t testing.TB, sizes []int, rules ...string) api.Statute {
	t.Helper()
	return parsed(t, sized(sizes...)+ruleTexts(rules...))
}

// ons: on0(V0), on0(V1), .. of so many variables of the kind k0.
func ons(many int) []string {
	var all []string
	for n := range many {
		all = append(all, "on0(V"+digits(n)+")")
	}
	return all
}

func rule(head string, premises ...string) string {
	return strings.Join(premises, ", ") + " => " + head
}

// TestMostAssignments: 65536, of which 4096 are instances, or none; twice as many; and the least more than 65536 that numbers of members can come to.
func TestMostAssignments(t *testing.T) {
	t.Parallel()
	unlike := []string{"V0 != V1", "V2 != V3", "V14 != V15", "V4 != a0"}
	for _, c := range []struct {
		sizes []int
		rule  string
		many  int
		errno api.Errno
	}{
		{[]int{2}, rule("q", slices.Concat(ons(12), []string{"at0(V12, V13)", "at0(V14, V15)"}, unlike[:1])...), 0, api.ErrGround},
		{[]int{2}, rule("q", append(pairs(16), unlike...)...), 4096, api.OK},
		{[]int{2}, rule("q", append(pairs(16), unlike[1:]...)...), 0, api.ErrGround},
		{[]int{2}, rule("q", append(pairs(16), "V3 != V3")...), 0, api.OK},
		{[]int{2}, rule("on0(V16)", append(pairs(16), "V3 != V3")...), 0, api.ErrGround},
		{[]int{2, 32}, "on0(A), on1(B), on1(C), on1(D), a0 != a0 => q", 0, api.OK},
		{[]int{2, 32}, "on0(A), on1(B), on1(C), on1(D), on0(E), a0 != a0 => q", 0, api.ErrGround},
		{[]int{23, 19, 15, 5, 2}, "on0(A), on1(B), on2(C), on3(D), on4(E), a0 != a0 => q", 0, api.ErrGround},
		{[]int{23, 19, 15, 5, 2}, "on0(A), on1(B), on2(C), on3(D), a0 != a0 => q", 0, api.OK},
	} {
		s := of(t, c.sizes, c.rule)
		got, errno := ground.Assignments(s, 0)
		if len(got) != c.many || errno != c.errno {
			t.Errorf("P11.1: Assignments of %s: %d, %d, want %d, %d", c.rule, len(got), errno, c.many, c.errno)
		}
		if g, gotErrno, _ := ground.Ground(s); len(g.Schema) != c.many || gotErrno != c.errno {
			t.Errorf("P11.2: Ground of %s: %d rules, %d, want %d, %d", c.rule, len(g.Schema), gotErrno, c.many, c.errno)
		}
	}
}

// pairs: at0(V0, V1), at0(V2, V3), .. of so many variables.
func pairs(many int) []string {
	var all []string
	for n := 0; n < many; n += 2 {
		all = append(all, "at0(V"+digits(n)+", V"+digits(n+1)+")")
	}
	return all
}

// TestManyMoreAssignments: more than any word can count, as many as a word that wraps round would call few.
func TestManyMoreAssignments(t *testing.T) {
	for _, many := range []int{4, 10, 12, 22, 24} {
		s := of(t, []int{64}, rule("q", append(pairs(many), "a0 != a0")...))
		wantAssignments(t, s, 0, nil, api.ErrGround)
		wantRefused(t, s, api.ErrGround, 0)
		s = of(t, []int{64, 0}, rule("on1(G)", append(pairs(many), "a0 != a0")...))
		wantAssignments(t, s, 0, nil, api.OK)
	}
}

// TestManyVariables: hundreds of them, of a kind of one member but for some.
func TestManyVariables(t *testing.T) {
	s := of(t, []int{1, 2}, "p => q")
	var body []api.PremiseText
	for n := range api.MaxBody - 1 {
		g := api.GuardText{Op: api.OpLess, Left: []api.TermText{{Coef: 1, Pred: "num1", Args: []string{"V" + digits(n)}}}}
		for k := range api.MaxTerms {
			name := digits(n) + "_" + digits(k)
			g.Right = append(g.Right, api.TermText{Coef: 2, Pred: "two0", Args: []string{"A" + name, "B" + name}})
		}
		body = append(body, api.PremiseText{Kind: api.PremiseGuard, Guard: g})
	}
	for n := range 4 {
		body[n*3] = api.PremiseText{Kind: api.PremiseUnlike, A: "V" + digits(n*3+1), B: "V" + digits(n*3+2)}
	}
	s.Rules[0].Body = body
	if got, errno := wantModel(t, s); len(got.Schema) != 128 || errno != api.OK {
		t.Errorf("P11.2: of many variables: %d rules, %d", len(got.Schema), errno)
	}
}

// TestMostRules: of one schema 4096 and one more, which is what seventeen times 17 * 17 - 3 * 17 + 3 comes to.
func TestMostRules(t *testing.T) {
	t.Parallel()
	many := "on0(X), on0(Y), on0(Z), X != Y, X != a0, Y != a1 => q"
	for _, c := range []struct {
		sizes []int
		rules []string
		errno api.Errno
		place int
	}{
		{[]int{64}, []string{"at0(X, Y) => q"}, api.ErrLits, 1},
		{[]int{64}, []string{"on0(X), on0(Y) => q"}, api.OK, 1},
		{[]int{17}, []string{many}, api.ErrGround, 0},
		{[]int{17}, []string{many, many}, api.ErrGround, 0},
		{[]int{17}, []string{"=> p", "=> q", many, "=> r"}, api.ErrGround, 2},
		{[]int{16}, []string{"on0(X), on0(Y), on0(Z) => q"}, api.OK, 1},
		{[]int{16}, []string{"on0(X), on0(Y), on0(Z) => q", "=> p"}, api.ErrGround, 1},
		{[]int{16}, []string{"=> p", "on0(X), on0(Y), on0(Z) => q", "=> p"}, api.ErrGround, 1},
		{[]int{16}, []string{"on0(X), on0(Y), on0(Z) => q", "a0 != a0 => p", "on0(X), X != X => p"}, api.OK, 3},
		{[]int{16}, []string{"on0(X), on0(Y), on0(Z) => q", "a0 != a0 => p", "on0(X), X != X => p", "a0 != a1 => r"}, api.ErrGround, 3},
		{[]int{16}, []string{"on0(X), on0(Y), on0(Z), X != a0 => q", "on0(X), on0(Y) => q"}, api.OK, 2},
		{[]int{16}, []string{"on0(X), on0(Y), on0(Z), X != a0 => q", "on0(X), on0(Y) => q", "=> q"}, api.ErrGround, 2},
		{[]int{16}, []string{"on0(X), on0(Y), on0(Z), X != a0 => q", "on0(X), on0(Y), X != a0 => q", "on0(X) => q", "on0(X) => q", "=> q"}, api.ErrGround, 3},
	} {
		s := of(t, c.sizes, c.rules...)
		if c.errno == api.OK {
			if g := grounded(t, s); len(g.Theory.Rules) != api.MaxRules || len(g.Schema) != api.MaxRules || len(g.Theory.Beats) != api.MaxRules {
				t.Errorf("P11.2: %q: %d rules", c.rules, len(g.Theory.Rules))
			}
			continue
		}
		wantRefused(t, s, c.errno, c.place)
	}
	wantAssignments(t, of(t, []int{17}, many), 0, nil, api.ErrGround)
	for schema, want := range []int{16 * 16 * 16, 17} {
		s := of(t, []int{17, 16}, "on1(X), on1(Y), on1(Z) => q", "on0(X) => q")
		if got, errno := ground.Assignments(s, schema); len(got) != want || errno != api.OK {
			t.Errorf("P11.1: Assignments of %d instances: %d, %d", want, len(got), errno)
		}
	}
}

// TestMostLiterals: guards' among them. Of a pair of unlike ones of 64 there are 4032, of all pairs of 32 each 1024.
func TestMostLiterals(t *testing.T) {
	t.Parallel()
	half := []string{"at0(X, Y) => p", "at1(X, Y) => p"}
	for _, c := range []struct {
		sizes []int
		rules []string
		many  int
		errno api.Errno
	}{
		{[]int{32, 32}, []string{"at0(X, Y) => at1(Z, Z)", "at1(X, Y) => at0(Z, Z)"}, 0, api.ErrGround},
		{[]int{32, 32}, []string{"=> at0(X, Y)", "=> at1(X, Y)"}, 4096, api.OK},
		{[]int{32, 32}, []string{"=> at0(X, Y)", "=> -at1(X, Y)"}, 4096, api.OK},
		{[]int{32, 32}, half, 0, api.ErrLits},
		{[]int{32, 32}, []string{half[0], "at1(X, Y), X != b0 => p", "at1(b0, Y), Y != b0 => p"}, 4096, api.OK},
		{[]int{32, 32}, []string{half[0], "at1(X, Y), X != b0 => p", "at1(b0, Y), Y != b0, {rate < 5} => p"}, 0, api.ErrLits},
		{[]int{32, 32}, []string{half[0], "at1(X, Y), X != b0 => p", "at1(b0, Y), Y != b0 => q"}, 0, api.ErrLits},
		{[]int{64}, []string{"{two0(X, Y) < 5}, X != Y => p", "{num0(X) < 5}, X != a0, X != a1 => p"}, 4096, api.OK},
		{[]int{64}, []string{"{two0(X, Y) < 5}, X != Y => p", "{num0(X) < 5}, X != a0 => p"}, 0, api.ErrLits},
		{[]int{64}, []string{"{two0(X, Y) < 5}, X != Y => p", "{num0(X) < 5}, X != a0, X != a1 => -pay = 1"}, 0, api.ErrLits},
		{[]int{64}, []string{"{two0(X, Y) + two0(Y, X) < 5} => p"}, 2082, api.OK},
	} {
		s := of(t, c.sizes, c.rules...)
		if c.errno == api.OK {
			if g := grounded(t, s); len(g.Lits) != c.many || g.Theory.Lits != c.many || len(g.Theory.Foes) != c.many {
				t.Errorf("P11.2: %q: %d literals, %d, %d, want %d", c.rules, len(g.Lits), g.Theory.Lits, len(g.Theory.Foes), c.many)
			}
			continue
		}
		if g, errno, _ := ground.Ground(s); errno != c.errno || !same(g, api.Ground{}) {
			t.Errorf("P11.2: Ground of %q: %d, want %d", c.rules, errno, c.errno)
		}
	}
	wantRefused(t, of(t, []int{32, 32}, half...), api.ErrLits, 2)
}

// TestMostPairs: 65536 are twice 256 by 128 rules.
func TestMostPairs(t *testing.T) {
	t.Parallel()
	some := "on0(X), on0(Y) => "  // 256
	fewer := "on0(X), on1(Y) => " // 128
	for _, c := range []struct {
		rules []string
		errno api.Errno
	}{
		{[]string{some + "p", fewer + "-p"}, api.OK},
		{[]string{fewer + "-p", some + "p"}, api.OK},
		{[]string{some + "p", fewer + "-p", "=> q", "=> -q"}, api.ErrPairs},
		{[]string{some + "p", fewer + "-p", "=> p"}, api.ErrPairs},
		{[]string{some + "p", fewer + "-p", "=> q", "=> s", "=> -r"}, api.OK},
		{[]string{some + "p", some + "p"}, api.OK},
		{[]string{some + "p", some + "-p"}, api.ErrPairs},
		{[]string{some + "pay = 1", fewer + "pay = 2"}, api.OK},
		{[]string{some + "pay = 1", fewer + "pay = 2", "=> pay = 3"}, api.ErrPairs},
		{[]string{some + "pay = 1", fewer + "-pay = 1", "=> -pay = 2"}, api.OK},
		{[]string{some + "pay = 1", fewer + "-pay = 1", "=> pay = 2"}, api.ErrPairs},
		{[]string{some + "x", fewer + "y"}, api.OK},
		{[]string{some + "x", fewer + "y", "=> -z"}, api.OK},
		{[]string{some + "x", fewer + "y", "=> z"}, api.ErrPairs},
		{[]string{some + "x", some + "-y"}, api.OK},
	} {
		s := of(t, []int{16, 8}, c.rules...)
		if c.errno == api.OK {
			grounded(t, s)
			continue
		}
		wantRefused(t, s, c.errno, len(c.rules))
	}
}

// TestTwoFaults: of two at one time the one ahead in the chapter's order is told.
func TestTwoFaults(t *testing.T) {
	t.Parallel()
	faults := []struct {
		rules string
		errno api.Errno
		place func(schemas int, first int) int
	}{
		{"on0(X), on0(Y), on0(Z), on0(V) => q", api.ErrGround, func(_, first int) int { return first }},
		{"on0(X), on0(Y), on0(Z) => q", api.ErrGround, func(_, first int) int { return first }},
		{"at0(X, Y), {two0(X, Y) < 5}, {two0(X, Y) < 6}, {two0(X, Y) < 7} => r", api.ErrLits, func(schemas, _ int) int { return schemas }},
		{"on0(X), on0(Y), a0 != X => p; on0(X), on0(Y) => -p", api.ErrPairs, func(schemas, _ int) int { return schemas }},
	}
	want := func(rules []string, errno api.Errno, place int) {
		t.Helper()
		wantRefused(t, of(t, []int{32}, rules...), errno, place)
	}
	for i, a := range faults {
		first := strings.Split(a.rules, "; ")
		want(first, a.errno, a.place(len(first), 0))
		s := of(t, []int{32}, first...)
		s.Sources[0].Rank = 1001
		wantRefused(t, s, api.ErrRange, itemsBehind(s))
		for j, b := range faults {
			second := strings.Split(b.rules, "; ")
			both := slices.Concat(first, second)
			at := 0
			told := a
			if j < i {
				told, at = b, len(first)
			}
			if i < 2 {
				// Schema by schema: the first one that is too many is told.
				told, at = a, 0
			}
			want(both, told.errno, told.place(len(both), at))
		}
	}
}

// itemsBehind: the number of the first source.
func itemsBehind(s api.Statute) int {
	return len(s.Kinds) + len(s.Members) + len(s.Preds) + len(s.Classes)
}

// TestAssignmentFaults: a schema that there is not goes ahead of what Assignments would say of others.
func TestAssignmentFaults(t *testing.T) {
	s := of(t, []int{32}, "on0(X), on0(Y), on0(Z), on0(V) => q")
	wantAssignments(t, s, 0, nil, api.ErrGround)
	wantAssignments(t, s, 1, nil, api.ErrArg)
	wantAssignments(t, s, -1, nil, api.ErrArg)
	s.Sources[0].Rank = 1001
	for _, schema := range []int{0, 1, -1} {
		wantAssignments(t, s, schema, nil, api.ErrRange)
	}
}
