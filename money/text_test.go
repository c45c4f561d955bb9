package money_test

import (
	"fmt"
	"math"
	"math/big"
	"regexp"
	"strings"
	"testing"

	"lexprior/api"
	"lexprior/money"
)

func TestForms(t *testing.T) {
	for _, c := range []struct {
		m    api.Money
		text string
	}{
		{0, "0"},
		{1, "0.01"},
		{-1, "-0.01"},
		{-5, "-0.05"},
		{9, "0.09"},
		{10, "0.10"},
		{99, "0.99"},
		{100, "1"},
		{-100, "-1"},
		{101, "1.01"},
		{110, "1.10"},
		{1200, "12"},
		{12050, "120.50"},
		{-12050, "-120.50"},
		{100000, "1000"},
		{money.Most - 1, "9999999999999.99"},
		{money.Most, "10000000000000"},
		{1 - money.Most, "-9999999999999.99"},
		{-money.Most, "-10000000000000"},
	} {
		if got, errno := money.Print(c.m); got != c.text || errno != api.OK {
			t.Errorf("P2.1: Print(%d) = %q, %d, want %q", c.m, got, errno, c.text)
		}
		if got, errno := money.Parse(c.text); got != c.m || errno != api.OK {
			t.Errorf("P2.1: Parse(%q) = %d, %d, want %d", c.text, got, errno, c.m)
		}
	}
}

func TestPrintOfWhatMayNotBe(t *testing.T) {
	for _, m := range edgeAmounts() {
		if mayBe(m) {
			continue
		}
		if got, errno := money.Print(m); got != "" || errno != api.ErrOver {
			t.Errorf("P2.1: Print(%d) = %q, %d", m, got, errno)
		}
	}
}

func TestNearlyTheForm(t *testing.T) {
	texts := []string{
		"", "-", "--", ".", "-.", "+", "+1", "--1", "1-", "-1-", "- 1", " 1", "1 ", "1\n", "\x001", "1\x00",
		"-0", "00", "01", "-01", "000", "00.05", "-00.05", "01.05", "0x1", "1e2", "1_000", "1,50", "1'000",
		"0.", "1.", "-1.", ".5", ".50", "-.50", "0.0", "0.00", "-0.0", "-0.00", "1.00", "-1.00", "1.0", "1.5", "120.5",
		"1.000", "1.500", "1.050", "1.505", "0.005", "1.5.0", "1..50", "1.50.", "1.50.50", "1.-5", "1.+5", "1. 5", "1.5 ", "1.5-", "1.a0", "1.0a",
		"a", "1a", "a1", "1a.50", "/", ":", "1/", "1:", "1./0", "1.0:", "1.:0", "1.0/", "NaN", "Inf", "-Inf",
		"\u0661", "1.\u0665\u0660", "\uff11", "\u22121", "1\u00a0", "\xff", "1\xff", "1.\xff\xff", "1.0\xff",
		"10000000000000.00", "10000000000000.1", "010000000000001", "-010000000000001", "10000000000001.", "10000000000001.5",
	}
	huge := strings.Repeat("9", 5000)
	texts = append(texts, "0"+huge, "-0"+huge, huge+".", huge+".5", huge+".00", huge+".500", huge+"a", huge+"-", huge+".a5", "+"+huge, "--"+huge, huge+"."+huge)
	for _, s := range texts {
		if got, errno := money.Parse(s); got != 0 || errno != api.ErrMoney {
			t.Errorf("P2.1: Parse(%.40q) = %d, %d", s, got, errno)
		}
	}
}

func TestFormsOfWhatMayNotBe(t *testing.T) {
	texts := []string{
		"10000000000000.01", "-10000000000000.01", "10000000000000.99", "10000000000001", "-10000000000001", "99999999999999", "99999999999999.99",
		"100000000000000", "-100000000000000", "184467440737095516", "184467440737095516.16", "-184467440737095516.16", "184467440737095517.66",
		"92233720368547758.07", "92233720368547758.08", "-92233720368547758.08", "18446744073709551616", "340282366920938463463374607431768211456", "3402823669209384634633746074317682114.61",
	}
	for _, size := range []int{15, 16, 17, 18, 19, 20, 38, 39, 5000, 1 << 20} {
		for _, tail := range []string{"", ".05", ".50", ".99"} {
			texts = append(texts, "1"+strings.Repeat("0", size-1)+tail, "-"+strings.Repeat("9", size)+tail)
		}
	}
	for _, s := range texts {
		if got, errno := money.Parse(s); got != 0 || errno != api.ErrOver {
			t.Errorf("P2.1: Parse(%.40q) = %d, %d", s, got, errno)
		}
	}
}

// TestAllShortTexts: each text of few bytes, held against the form told in another way.
func TestAllShortTexts(t *testing.T) {
	form := regexp.MustCompile(`\A(0|-?[1-9][0-9]*|-?(0|[1-9][0-9]*)\.(0[1-9]|[1-9][0-9]))\z`)
	var walk func(s string, more int)
	walk = func(s string, more int) {
		checkText(t, s, form.MatchString(s))
		if more == 0 {
			return
		}
		for _, c := range []string{"-", ".", "0", "1", "7", "9", " ", "/", ":"} {
			walk(s+c, more-1)
		}
	}
	walk("", 5)
	for c := range 256 {
		for _, s := range []string{"%s", "%s1", "1%s", "-%s", "-1%s", "1.%s5", "1.5%s", "1%s50", "1.50%s"} {
			s = fmt.Sprintf(s, string([]byte{byte(c)}))
			checkText(t, s, form.MatchString(s))
		}
	}
}

func checkText(t *testing.T, s string, isForm bool) {
	t.Helper()
	m, errno := money.Parse(s)
	if !isForm {
		if m != 0 || errno != api.ErrMoney {
			t.Errorf("P2.1: Parse(%q) = %d, %d", s, m, errno)
		}
		return
	}
	exact, _ := new(big.Rat).SetString(s)
	want := exact.Mul(exact, big.NewRat(100, 1)).Num().Int64()
	if errno != api.OK || int64(m) != want {
		t.Errorf("P2.1: Parse(%q) = %d, %d, want %d", s, m, errno, want)
	}
	if back, errno := money.Print(m); back != s || errno != api.OK {
		t.Errorf("P2.6: Print of Parse(%q) is %q, %d", s, back, errno)
	}
}

func checkThereAndBack(t *testing.T, m api.Money) {
	t.Helper()
	s, errno := money.Print(m)
	if errno != api.OK {
		t.Fatalf("P2.1: Print(%d): %d", m, errno)
	}
	if back, errno := money.Parse(s); back != m || errno != api.OK {
		t.Fatalf("P2.6: Parse of Print(%d) = %q is %d, %d", m, s, back, errno)
	}
	whole, cents := new(big.Int).DivMod(big.NewInt(int64(max(m, -m))), big.NewInt(100), new(big.Int))
	want := whole.String()
	if cents.Sign() != 0 {
		want += fmt.Sprintf(".%02d", cents)
	}
	if m < 0 {
		want = "-" + want
	}
	if s != want {
		t.Fatalf("P2.1: Print(%d) = %q, want %q", m, s, want)
	}
}

func TestThereAndBack(t *testing.T) {
	for m := api.Money(-20_000); m <= 20_000; m++ {
		checkThereAndBack(t, m)
	}
	for _, m := range edgeAmounts() {
		if mayBe(m) {
			checkThereAndBack(t, m)
		}
	}
	c := chance(2)
	for range 20_000 {
		checkThereAndBack(t, c.amount())
	}
}

// TestParseOfLongTexts: a text is told from its form before its number is weighed, however long it is.
func TestParseOfLongTexts(t *testing.T) {
	long := strings.Repeat("1", 1<<22)
	if _, errno := money.Parse(long); errno != api.ErrOver {
		t.Errorf("P2.1: a number of 2^22 digits: %d", errno)
	}
	if _, errno := money.Parse(long + "x"); errno != api.ErrMoney {
		t.Errorf("P2.1: 2^22 digits and a letter: %d", errno)
	}
	if _, errno := money.Parse(strings.Repeat("0", math.MaxInt16)); errno != api.ErrMoney {
		t.Errorf("P2.1: many zeros: %d", errno)
	}
}
