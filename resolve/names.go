package resolve

import "lexprior/api"

// put: a key keeps the number with which it came first. Was it new?
func put[K comparable](numbers map[K]int, key K, number int) bool {
	if _, there := numbers[key]; there {
		return false
	}
	numbers[key] = number
	return true
}

// numbered: of each key of a list's things the number of the first that has it.
func numbered[T any, K comparable](things []T, keyOf func(T) K) map[K]int {
	numbers := make(map[K]int, len(things))
	for n, thing := range things {
		put(numbers, keyOf(thing), n)
	}
	return numbers
}

func lookUp[T any](things []T, nameOf func(T) string, name string) (int, bool) {
	n, there := numbered(things, nameOf)[name]
	return n, there
}

// itself: where a thing is its own key.
func itself[K comparable](key K) K {
	return key
}

func memberName(m api.MemberText) string {
	return m.Name
}

func predName(p api.PredText) string {
	return p.Name
}

func sourceName(s api.SourceText) string {
	return s.Name
}

func ruleName(r api.RuleText) string {
	return r.Name
}

func totalName(t api.TotalText) string {
	return t.Name
}
