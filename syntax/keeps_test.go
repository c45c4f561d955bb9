package syntax_test

import (
	"reflect"
	"strconv"
	"sync"
	"testing"
	"unsafe"

	"lexprior/api"
	"lexprior/syntax"
)

// loose: bytes, and the text that they are, so that the text can become another behind a call.
func loose(s string) ([]byte, string) {
	b := []byte(s)
	return b, unsafe.String(unsafe.SliceData(b), len(b))
}

func TestTextsAreNotChangedNorKept(t *testing.T) {
	want := told(parsed(t, whole))
	b, s := loose(whole)
	statute, _, _ := syntax.Parse(s)
	if string(b) != whole {
		t.Errorf("P5.5: Parse changed its text: %q", b)
	}
	for i := range b {
		b[i] = '?'
	}
	if told(statute) != want {
		t.Errorf("P5.5: the statute shares memory with its text: %s", told(statute))
	}
}

// stretch is a piece of memory.
type stretch struct{ from, to uintptr }

func (a stretch) meets(b stretch) bool {
	return a.from < b.to && b.from < a.to
}

// memory: of a value all lists, up to their capacity, and all texts.
func memory(v reflect.Value) (lists, texts []stretch) {
	add := func(inner reflect.Value) {
		l, s := memory(inner)
		lists, texts = append(lists, l...), append(texts, s...)
	}
	switch v.Kind() {
	case reflect.Struct:
		for i := range v.NumField() {
			add(v.Field(i))
		}
	case reflect.Slice:
		if v.Cap() > 0 {
			lists = append(lists, stretch{v.Pointer(), v.Pointer() + uintptr(v.Cap())*v.Type().Elem().Size()})
		}
		for i := range v.Len() {
			add(v.Index(i))
		}
	case reflect.String:
		if s := v.String(); s != "" {
			from := uintptr(unsafe.Pointer(unsafe.StringData(s)))
			texts = append(texts, stretch{from, from + uintptr(len(s))})
		}
	}
	return lists, texts
}

// TestListsShareNothing: neither those of one answer, nor those of two.
func TestListsShareNothing(t *testing.T) {
	first, second := parsed(t, whole), parsed(t, whole)
	lists, texts := memory(reflect.ValueOf(first))
	others, otherTexts := memory(reflect.ValueOf(second))
	for i, a := range lists {
		for _, b := range append(lists[:i:i], others...) {
			if a.meets(b) {
				t.Errorf("P5.5: two lists share memory: %v, %v", a, b)
			}
		}
	}
	_, given := memory(reflect.ValueOf(whole))
	for _, a := range texts {
		for _, b := range append(given, otherTexts...) {
			if a.meets(b) {
				t.Errorf("P5.5: a text of the statute shares memory with another answer's, or with the text: %v, %v", a, b)
			}
		}
	}
	if len(lists) < 30 || len(texts) < 50 {
		t.Errorf("only %d lists and %d texts were seen", len(lists), len(texts))
	}
}

// TestAnswersAreNew: what is done to one answer is not seen in a later one.
func TestAnswersAreNew(t *testing.T) {
	first := parsed(t, whole)
	want := told(first)
	for i := range first.Rules {
		clear(first.Rules[i].Body[:cap(first.Rules[i].Body)])
	}
	clear(first.Classes[0])
	clear(first.Preds[:cap(first.Preds)])
	clear(first.Rules[:cap(first.Rules)])
	if got := told(parsed(t, whole)); got != want {
		t.Errorf("P5.5: another answer: %s, then %s", want, got)
	}
}

// answer: of Parse, told in one text.
func answer(s string) string {
	statute, errno, at := syntax.Parse(s)
	return told(statute) + strconv.Itoa(int(errno)) + " " + strconv.Itoa(at)
}

// TestSameAnswers: the same text has the same answer, alone and beside other calls.
func TestSameAnswers(t *testing.T) {
	var texts []string
	for _, each := range someStatutes(300, 56) {
		s := closed(each.tokens())
		texts = append(texts, s, s+"kind", s[:len(s)/2])
	}
	want := make([]string, len(texts))
	for i, s := range texts {
		want[i] = answer(s)
	}
	var workers sync.WaitGroup
	for range 4 {
		workers.Go(func() {
			for i, s := range texts {
				if got := answer(s); got != want[i] {
					t.Errorf("P3: of %q another answer: %s, then %s", s, want[i], got)
				}
			}
		})
	}
	workers.Wait()
}

// FuzzParse: nothing panics, and all is as the chapter says, whatever bytes there are.
func FuzzParse(f *testing.F) {
	text := readGrammar()
	f.Add(whole)
	for _, each := range someStatutes(50, 57) {
		f.Add(closed(each.tokens()))
	}
	f.Fuzz(func(t *testing.T, s string) {
		checkAnswer(t, s)
		if checkVerdict(t, text, s) == api.OK && len(s) < api.MaxText-10 && told(parsed(t, s)) != told(parsed(t, s+"\n# more")) {
			t.Errorf("P5.3: a remark behind %q changes what is read", s)
		}
	})
}
