package guards_test

import (
	"testing"

	"lexprior/api"
	"lexprior/guards"
)

// TestExamples: those of the chapter.
func TestExamples(t *testing.T) {
	x := []string{"X"}
	text := compared(api.OpLess, side(textOf(1, "income", "X"), moneyText(500)), side(textOf(2, "rent", "X")))
	first := guard(api.OpLess, 500, times(1, atom(income, ann)), times(-2, atom(rent, ann)))
	wantOf(t, house(), text, x, []int{0}, first, api.OK)
	wantPrint(t, house(), first, "{income(ann) - 2*rent(ann) < -5}", api.OK)
	text = compared(api.OpLess, side(textOf(1, "income", "X")), side(textOf(1, "income", "X")))
	second := guard(api.OpLess, 0)
	wantOf(t, house(), text, x, []int{0}, second, api.OK)
	wantPrint(t, house(), second, "{0 < 0}", api.OK)
	if known, holds := guards.Truth(second, nil); !known || holds {
		t.Errorf("example 2: Truth: %t, %t", known, holds)
	}
}
