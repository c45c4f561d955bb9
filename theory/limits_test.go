package theory_test

import (
	"slices"
	"testing"

	"lexprior/api"
	"lexprior/theory"
)

func TestMostLits(t *testing.T) {
	wantCheck(t, "4096 literals", plain(4096), api.OK, 0)
	wantCheck(t, "4097 literals", plain(4097), api.ErrLits, 0)
	wantRefused(t, plain(4097), api.ErrLits)
	b := append(append([]byte("thy\x01"), 0x80, 0x20), make([]byte, 4097)...)
	wantEncode(t, plain(4096), b, api.OK)
	wantDecode(t, "4096 literals", b, plain(4096), api.OK, len(b))
	b[4] = 0x81
	wantDecode(t, "4097 literals", append(b, 0), api.Theory{}, api.ErrCount, 4)
}

func TestMostFoes(t *testing.T) {
	most := plain(70)
	enemies(&most, upTo(65)...)
	wantCheck(t, "64 foes", most, api.OK, 0)
	wantRound(t, most)
	more := plain(70)
	for foe := 1; foe <= 65; foe++ {
		enemies(&more, 0, foe)
	}
	wantCheck(t, "65 foes", more, api.ErrFoe, 0)
	last := plain(70)
	for foe := range 65 {
		enemies(&last, foe, 69)
	}
	wantCheck(t, "65 foes of the last", last, api.ErrFoe, 69)
	// Of the first the bytes say a count that is too great; of the last one all counts are 0 or 1.
	b, at := modelBytes(more), 5
	wantDecode(t, "65 foes", b, api.Theory{}, api.ErrCount, at)
	wantDecode(t, "65 foes of the last", modelBytes(last), api.Theory{}, api.ErrFoe, 0)
	middle := plain(70)
	for foe := range 66 {
		enemies(&middle, foe, 33)
	}
	wantCheck(t, "65 foes of one in the middle", middle, api.ErrFoe, 33)
	wantDecode(t, "65 foes of one in the middle", modelBytes(middle), api.Theory{}, api.ErrFoe, 0)
}

func TestMostRules(t *testing.T) {
	most := plain(1, slices.Repeat([]api.Rule{rule(0)}, 4096)...)
	wantCheck(t, "4096 rules", most, api.OK, 0)
	wantRound(t, most)
	more := plain(1, slices.Repeat([]api.Rule{rule(0)}, 4097)...)
	wantCheck(t, "4097 rules", more, api.ErrGround, 0)
	wantDecode(t, "4097 rules", modelBytes(more), api.Theory{}, api.ErrCount, 6)
	wantRefused(t, more, api.ErrGround)
	more.Rules[0].Kind = 0
	wantCheck(t, "4097 rules, the first of no kind", more, api.ErrGround, 0)
	more.Foes[0] = []int{0}
	wantCheck(t, "4097 rules, and its own foe", more, api.ErrFoe, 0)
}

func TestMostBody(t *testing.T) {
	most := plain(20, rule(0), rule(19, upTo(16)...))
	wantCheck(t, "16 in a body", most, api.OK, 0)
	wantRound(t, most)
	wantSize(t, most, 20, 16, 0, api.OK)
	more := plain(20, rule(0), rule(19, upTo(17)...))
	wantCheck(t, "17 in a body", more, api.ErrRule, 1)
	wantDecode(t, "17 in a body", modelBytes(more), api.Theory{}, api.ErrCount, 4+1+20+1+3+2)
}

// against: so many rules for a literal, and so many for its foe.
func against(one, other int) api.Theory {
	x := plain(3, slices.Concat(slices.Repeat([]api.Rule{rule(0)}, one), slices.Repeat([]api.Rule{rule(1)}, other))...)
	enemies(&x, 0, 1)
	return x
}

// TestMostPairs: pairs are as many one way as the other, so that 65538 is the least number above 65536.
func TestMostPairs(t *testing.T) {
	most := against(128, 256)
	wantCheck(t, "65536 pairs", most, api.OK, 0)
	wantSize(t, most, 3, 0, 65536, api.OK)
	wantRound(t, most)
	more := against(99, 331)
	wantCheck(t, "65538 pairs", more, api.ErrPairs, 0)
	wantRefused(t, more, api.ErrPairs)
	wantDecode(t, "65538 pairs", modelBytes(more), api.Theory{}, api.ErrPairs, 0)
	wantCheck(t, "as many as can be", against(2048, 2048), api.ErrPairs, 0)

	more.Beats = nil
	wantCheck(t, "65538 pairs, no Beats", more, api.ErrPairs, 0)
	more = against(99, 331)
	more.Beats[0], more.Beats[99] = []int{99}, []int{0}
	wantCheck(t, "65538 pairs, a circle", more, api.ErrPairs, 0)
	more.Beats[5] = []int{5}
	wantCheck(t, "65538 pairs, one beats itself", more, api.ErrPairs, 0)
	more.Rules[429].Head = 3
	wantCheck(t, "65538 pairs, a head that is none", more, api.ErrRule, 429)
}

// TestMostBeaten: a list of 4096 beaten rules is read, though no theory has one.
func TestMostBeaten(t *testing.T) {
	x := plain(1, slices.Repeat([]api.Rule{rule(0)}, 4096)...)
	x.Beats[4095] = upTo(4096)
	b := modelBytes(x)
	wantDecode(t, "4096 beaten", b, api.Theory{}, api.ErrBeat, 0)
	at := 4 + 1 + 1 + 2 + 3*4096 + 4095
	wantDecode(t, "4097 beaten", slices.Concat(b[:at], []byte{0x81, 0x20}, b[at+2:]), api.Theory{}, api.ErrCount, at)
	// A full superiority: each rule for 0 beats all for 1.
	all := against(128, 256)
	for r := range 128 {
		all.Beats[r] = upTo(384)[128:]
	}
	wantCheck(t, "all beaten", all, api.OK, 0)
	wantRound(t, all)
	all.Beats[383] = []int{127}
	wantCheck(t, "a circle of all", all, api.ErrPriorityCycle, 127)
	wantDecode(t, "a circle of all", modelBytes(all), api.Theory{}, api.ErrPriorityCycle, 0)
}

// TestLongCircles: rules that beat one another in a row, up and down, and its end comes back.
func TestLongCircles(t *testing.T) {
	var rules []api.Rule
	for r := range 4096 {
		rules = append(rules, rule(r))
	}
	x := plain(4096, rules...)
	for r := range 4096 {
		enemies(&x, r, (r+1)%4096)
	}
	for r := range 4095 {
		x.Beats[r] = []int{r + 1}
	}
	wantCheck(t, "a row", x, api.OK, 0)
	x.Beats[4095] = []int{0}
	wantCheck(t, "a circle of 4096", x, api.ErrPriorityCycle, 0)
	x.Beats[4095] = nil
	x.Beats[4095] = []int{4094}
	wantCheck(t, "a circle at the end of a row", x, api.ErrPriorityCycle, 4094)
	x.Beats[0] = nil
	for r := 1; r < 4096; r++ {
		x.Beats[r] = []int{r - 1}
	}
	wantCheck(t, "a row down", x, api.OK, 0)
	x.Beats[0] = []int{1}
	wantCheck(t, "a circle at the end of a row down", x, api.ErrPriorityCycle, 0)
	wantLayers(t, plain(4096, rules...), make([]int, 4096), 1, api.OK)
}

func TestLongChains(t *testing.T) {
	var up, down []api.Rule
	for r := range 4095 {
		up = append(up, rule(r+1, r))
		down = append(down, rule(r, r+1))
	}
	wantLayers(t, plain(4096, up...), upTo(4096), 4096, api.OK)
	turned := upTo(4096)
	slices.Reverse(turned)
	wantLayers(t, plain(4096, down...), turned, 4096, api.OK)
	wantCone(t, plain(4096, up...), []int{0}, upTo(4096), api.OK)
	wantCone(t, plain(4096, down...), []int{0}, []int{0}, api.OK)
	wantCone(t, plain(4096, down...), []int{4095}, upTo(4096), api.OK)
	wantLayers(t, plain(4096, append(up, rule(0, 4095))...), make([]int, 4096), 1, api.OK)
	wantCone(t, plain(4096, append(down, rule(4095, 0))...), []int{77}, upTo(4096), api.OK)
}

// TestFullTheory: the most literals, foes, rules and premises at one time.
func TestFullTheory(t *testing.T) {
	x := plain(4096)
	for first := 0; first+64 < 4096; first += 65 {
		enemies(&x, upTo(4096)[first:first+65]...)
	}
	for r := range 4096 {
		var body []int
		for n := range 16 {
			body = append(body, (r/65*65+n*251)%(r/65*65+65))
		}
		slices.Sort(body)
		body = slices.Compact(body)
		x.Rules = append(x.Rules, rule(r, body...))
	}
	x.Beats = make([][]int, 4096)
	wantCheck(t, "all heads in conflict", x, api.ErrPairs, 0)
	// In each class of 65 the first literal has 58 rules, seven others one each: 2*(58*7 + 7*6/2) pairs.
	for r := range x.Rules {
		x.Rules[r].Head = r / 65 * 65
		if r%65 < 8 {
			x.Rules[r].Head += r % 65
		}
	}
	wantCheck(t, "many for the first of each class", x, api.OK, 0)
	wantRound(t, x)
	layers, many, errno := theory.Layers(x)
	if errno != api.OK || len(layers) != 4096 || many < 2 {
		t.Errorf("P12.5: %d layers of %d literals, %d", many, len(layers), errno)
	}
	for lit, layer := range layers {
		if lit/65 < 63 && layer != layers[lit/65*65] {
			t.Errorf("P12.5: the foes %d and %d are in the layers %d and %d", lit, lit/65*65, layer, layers[lit/65*65])
		}
	}
	wantPart(t, x, upTo(4096), x, upTo(4096), api.OK)
}

// wantRound: there and back.
func wantRound(t testing.TB, x api.Theory) {
	t.Helper()
	b := modelBytes(x)
	wantEncode(t, x, b, api.OK)
	wantDecode(t, "there and back", b, x, api.OK, len(b))
}
