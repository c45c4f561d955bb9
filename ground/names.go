package ground

import "lexprior/api"

// argument is a variable, by its place among its schema's, or a member, by its number.
type argument struct {
	isVar  bool
	number int
}

// under: the number of the member that it is, if the variables have these members.
func (a argument) under(members []int) int {
	if a.isVar {
		return members[a.number]
	}
	return a.number
}

// allUnder: of each the member's number.
func allUnder(args []argument, members []int) []int {
	numbers := make([]int, 0, len(args))
	for _, a := range args {
		numbers = append(numbers, a.under(members))
	}
	return numbers
}

// names finds what the names in a schema mean. In a statute that resolve.Check takes each is there, and no variable is called as a member is.
type names struct {
	preds     map[string]int
	arguments map[string]argument
}

func newNames(s api.Statute, vars []string) names {
	n := names{preds: map[string]int{}, arguments: map[string]argument{}}
	for number, p := range s.Preds {
		n.preds[p.Name] = number
	}
	for number, m := range s.Members {
		n.arguments[m.Name] = argument{number: number}
	}
	for place, name := range vars {
		n.arguments[name] = argument{isVar: true, number: place}
	}
	return n
}

func (n names) argument(name string) argument {
	return n.arguments[name]
}

func (n names) allArguments(all []string) []argument {
	args := make([]argument, 0, len(all))
	for _, name := range all {
		args = append(args, n.argument(name))
	}
	return args
}
