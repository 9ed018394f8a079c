package rules

import (
	"math"
	"reflect"
	"strings"

	"rankmere/api"
	"rankmere/book"
)

// list returns numbers with spare capacity behind them, which a function could
// write to by mistake.
func list(numbers ...int) []int {
	l := append(make([]int, 0, len(numbers)+3), numbers...)
	spare := l[len(l):cap(l)]
	for i := range spare {
		spare[i] = -77
	}
	return l
}

// rows returns a matrix with spare capacity behind its last row.
func rows(lists ...[]int) [][]int {
	m := append(make([][]int, 0, len(lists)+2), lists...)
	spare := m[len(m):cap(m)]
	for i := range spare {
		spare[i] = list(-78)
	}
	return m
}

// square returns a matrix of n rows that has k on its diagonal.
func square(n, k int) [][]int {
	m := rows()
	for i := range n {
		row := list(make([]int, n)...)
		row[i] = k
		m = append(m, row)
	}
	return m
}

func numbers() []int {
	return []int{
		math.MinInt, -api.MaxNum - 1, -api.MaxNum, -api.Prime, -1, 0, 1, 2, 5, api.Prime - 1,
		api.MaxNum, api.MaxNum + 1, math.MaxInt,
	}
}

func lists() [][]int {
	return [][]int{
		nil, list(), list(0), list(3), list(1, 2), list(2, 1), list(0, 5), list(3, -1), list(math.MinInt), list(1, math.MaxInt),
		list(1, 1, 2, 3), list(1, 1, 2, 3, 5, 8, 13, 21), list(make([]int, 20)...),
	}
}

func matrices() [][][]int {
	return [][][]int{
		nil, rows(), rows(nil), rows(list()), rows(list(1)), rows(list(1, 2)),
		rows(list(1, 2), list(3, 4)), rows(list(2, 1), list(1, 1)), rows(list(1, 2), list(2, 4)),
		rows(list(0, 3), list(-3, 0)), rows(list(0, 1), list(1, 2), list(2, 0)), rows(list(1, 2, 3), list(4, 5, 6)),
		rows(list(1, 2), list(3)), rows(list(1), list(2, 3)), rows(list(1, 2), nil),
		rows(list(0, 1, 2), list(1, 0, 3), list(4, 5, 6)), rows(list(math.MinInt)), rows(list(1, 2), list(math.MaxInt, 4)),
		square(4, 1), square(5, 2), square(20, 3),
	}
}

func fracs() []api.Frac {
	var l []api.Frac
	for _, num := range numbers() {
		for _, den := range numbers() {
			l = append(l, api.Frac{Num: num, Den: den})
		}
	}
	return l
}

func vecs() []api.Vec {
	return []api.Vec{
		{}, {X: 1}, {Y: 1}, {X: 5, Y: 1}, {X: -3, Y: 7}, {X: 6, Y: -14}, {X: api.MaxWhole, Y: -api.MaxWhole},
		{X: -api.MaxWhole, Y: -api.MaxWhole + 1}, {X: api.MaxWhole + 1}, {Y: math.MinInt}, {X: math.MaxInt, Y: math.MaxInt},
	}
}

func texts() []string {
	return []string{
		"", "\n", "\n\n", " ", "x", "\x00\xff \n", "bad\n", "set 0 0 5\nget 0 0", "set 0 0 5\nadd 1 0 2\ndet\ncrash 13\nget 0 0\n",
		"set 4 0 5\nset 0 0 9999999\nset 0 0 99999999\nget 9 9\n", "crash 9999999\n", "s 0 0 5 1254\n", "s 0 0 5 1254",
		"s 0 0 5 1255\n", "s 0 0 5\n", "s 0 0 99999999999999999999999 1\n", "x 1\n",
		strings.Repeat("x", api.MaxText+1), strings.Repeat("\n", api.MaxRun+1), strings.Repeat("det\n", 700),
	}
}

func books() []*book.Book {
	used := book.New()
	used.Set(0, 0, 5)
	used.Add(1, 0, 2)
	full := book.New()
	for i := range api.MaxLog {
		full.Set(i%api.Size, 0, i)
	}
	return []*book.Book{book.New(), used, full}
}

// samples returns new arguments of a type: common ones, those at the limits,
// and some that no function takes.
func samples(kind reflect.Type) reflect.Value {
	switch kind.String() {
	case "int":
		return reflect.ValueOf(numbers())
	case "[]int":
		return reflect.ValueOf(lists())
	case "[][]int":
		return reflect.ValueOf(matrices())
	case "api.Frac":
		return reflect.ValueOf(fracs())
	case "api.Vec":
		return reflect.ValueOf(vecs())
	case "string":
		return reflect.ValueOf(texts())
	case "*book.Book":
		return reflect.ValueOf(books())
	}
	panic("no samples of " + kind.String())
}

// arguments returns new arguments of a function for one choice of samples.
func arguments(kind reflect.Type, choice []int) []reflect.Value {
	args := make([]reflect.Value, len(choice))
	for i, k := range choice {
		args[i] = samples(kind.In(i)).Index(k)
	}
	return args
}

// choices yields all choices of samples for the parameters of a function.
func choices(kind reflect.Type, yield func(choice []int)) {
	many := make([]int, kind.NumIn())
	for i := range many {
		many[i] = samples(kind.In(i)).Len()
	}
	choice := make([]int, len(many))
	var choose func(at int)
	choose = func(at int) {
		if at == len(many) {
			yield(choice)
			return
		}
		for k := range many[at] {
			choice[at] = k
			choose(at + 1)
		}
	}
	choose(0)
}
