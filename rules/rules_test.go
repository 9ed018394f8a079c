package rules

import (
	"errors"
	"fmt"
	"math"
	"reflect"
	"strconv"
	"strings"
	"testing"

	"rankmere/api"
	"rankmere/book"
	"rankmere/plain"
)

func TestKinds(t *testing.T) {
	for _, f := range functions() {
		if got := reflect.TypeOf(f.call).String(); got != f.kind {
			t.Errorf("%s is a %s, want %s", f.name, got, f.kind)
		}
	}
}

// call calls a function, and tells whether it panicked instead of returning.
func call(f function, args []reflect.Value) (results []reflect.Value, panicked any) {
	defer func() { panicked = recover() }()
	return reflect.ValueOf(f.call).Call(args), nil
}

// shown writes values down. Slices that are nil or empty look alike, as the
// document wants, and a book is all that one can learn of it.
func shown(values []reflect.Value) string {
	var s strings.Builder
	for _, v := range values {
		b, is := v.Interface().(*book.Book)
		if is && b != nil {
			fmt.Fprintf(&s, "book %q %v %d; ", b.Text(), b.Rows(), b.Det())
		} else {
			fmt.Fprintf(&s, "%v; ", v.Interface())
		}
	}
	return s.String()
}

// memory is the part of memory in which the elements of a slice are.
type memory struct{ from, to uintptr }

// memories returns what slices in a value refer to, with their spare capacity.
func memories(v reflect.Value) []memory {
	if v.Kind() != reflect.Slice || v.Cap() == 0 {
		return nil
	}
	start := v.Pointer()
	l := []memory{{start, start + uintptr(v.Cap())*v.Type().Elem().Size()}}
	whole := v.Slice(0, v.Cap())
	for i := range whole.Len() {
		l = append(l, memories(whole.Index(i))...)
	}
	return l
}

// shared tells whether two parts of memory overlap of which one or both belong
// to results.
func shared(args, results []reflect.Value) bool {
	var old, now []memory
	for _, v := range args {
		old = append(old, memories(v)...)
	}
	for _, v := range results {
		now = append(now, memories(v)...)
	}
	for i, a := range now {
		for _, b := range append(old, now[:i]...) {
			if a.from < b.to && b.from < a.to {
				return true
			}
		}
	}
	return false
}

// whole returns arguments with the spare capacity of their slices.
func whole(args []reflect.Value) []reflect.Value {
	l := make([]reflect.Value, len(args))
	for i, v := range args {
		l[i] = v
		if v.Kind() == reflect.Slice {
			l[i] = v.Slice(0, v.Cap())
		}
		if m, is := l[i].Interface().([][]int); is {
			rows := make([][]int, len(m))
			for k, row := range m {
				rows[k] = row[:cap(row)]
			}
			l[i] = reflect.ValueOf(rows)
		}
	}
	return l
}

// spoil overwrites all that slices in a value refer to, as callers may do with
// what is theirs.
func spoil(v reflect.Value) {
	if v.Kind() != reflect.Slice {
		return
	}
	all := v.Slice(0, v.Cap())
	for i := range all.Len() {
		switch e := all.Index(i); e.Kind() {
		case reflect.Slice:
			spoil(e)
		case reflect.Int:
			e.SetInt(-79)
		default:
			e.SetZero()
		}
	}
}

// failure returns the error of a call if its function has one.
func failure(results []reflect.Value) (err error, has bool) {
	if len(results) == 0 || results[len(results)-1].Type() != reflect.TypeFor[error]() {
		return nil, false
	}
	err, _ = results[len(results)-1].Interface().(error)
	return err, true
}

// complain returns what is wrong with the results of a call that failed.
func complain(f function, results []reflect.Value, err error) string {
	if n := plain.Told(err); n < api.ErrRange || n > api.ErrState {
		return "is an error of no known number"
	}
	for i, v := range results[:len(results)-1] {
		if f.name == "book.Open" && i == 1 {
			continue // The number of a line may come with an error.
		}
		if !v.IsZero() && (v.Kind() != reflect.Slice || v.Len() > 0) {
			return "has results beside the error"
		}
	}
	return ""
}

// calls is what every function returned so far, by its arguments.
type calls map[string]string

// look calls a function and returns what rule it breaks, or "".
func (c calls) look(f function, args []reflect.Value) string {
	key, before := shown(args), shown(whole(args))
	results, panicked := call(f, args)
	if panicked != nil {
		return fmt.Sprint("panics: ", panicked)
	}
	got := shown(results)
	err, has := failure(results)
	if err != nil {
		if s := complain(f, results, err); s != "" {
			return s
		}
	}
	changes := has && err == nil && strings.HasPrefix(f.name, "book.Book.")
	if !changes && shown(whole(args)) != before {
		return "modifies its arguments"
	}
	if shared(args, results) {
		return "returns shared memory"
	}
	if want, is := c[key]; is && want != got {
		return "returns " + got + " and before " + want
	}
	c[key] = got
	for _, v := range append(args, results...) {
		spoil(v)
	}
	return ""
}

// TestRules calls every function with all samples and checks the rules: that it
// returns, without a panic and without results beside an error (Z1); that it
// neither modifies, shares nor retains memory, and returns the same again after
// other calls (Z2); that errors have known numbers (Z3); and that a nil slice
// is as good as an empty one (Z4).
func TestRules(t *testing.T) {
	for _, f := range functions() {
		t.Run(f.name, func(t *testing.T) {
			c := calls{}
			kind := reflect.TypeOf(f.call)
			for range 2 {
				choices(kind, func(choice []int) {
					args := arguments(kind, choice)
					told := shown(args)
					if s := c.look(f, args); s != "" {
						t.Fatalf("of %s %s", told, s)
					}
				})
			}
		})
	}
}

// TestErrors checks the numbers and names of errors (Z3).
func TestErrors(t *testing.T) {
	names := []string{"OK", "ErrRange", "ErrSyntax", "ErrShape", "ErrFull", "ErrNone", "ErrClash", "ErrState"}
	for i, e := range []api.Errno{
		api.OK, api.ErrRange, api.ErrSyntax, api.ErrShape, api.ErrFull, api.ErrNone, api.ErrClash, api.ErrState,
	} {
		if int(e) != i || e.Error() != names[i] {
			t.Errorf("error %d is %d, %q, want %q", i, int(e), e.Error(), names[i])
		}
		if got := plain.Told(e); got != e {
			t.Errorf("Told(%v) = %v", e, got)
		}
		if got := plain.Told(fmt.Errorf("line 1: %w", e)); got != e {
			t.Errorf("Told of what wraps %v = %v", e, got)
		}
	}
}

// TestTold checks the helper for other errors (Z4).
func TestTold(t *testing.T) {
	if got := plain.Told(nil); got != api.OK {
		t.Errorf("Told(nil) = %v, want OK", got)
	}
	if got := plain.Told(errors.New("ErrRange")); got != -1 {
		t.Errorf("Told of an error without a number = %d, want -1", int(got))
	}
}

// TestConstants checks that the constants of all chapters are there, as they
// were given (Z4).
func TestConstants(t *testing.T) {
	got := []int{
		api.Prime, api.Small, api.MaxNum, api.MaxMods, api.MaxMod, api.MaxTerms, api.MaxCoefs, api.MaxDots,
		api.MaxLong, api.MaxWhole, api.Length, api.MaxDim, api.MaxPower, api.MaxInt, api.MaxRows, api.MaxBand,
		api.MaxSeq, api.MaxCoef, api.MaxAt, api.MaxSide, api.MaxPts, api.MaxEdges, api.MaxPaths, api.MaxWidth,
		api.MaxHigh, api.MaxPairs, api.Size, api.MaxLog, api.MaxText, api.MaxRun,
	}
	want := []int{
		9_973, 257, 1_000_000, 5, 100, 30, 12, 6,
		16, 1_000, 8, 5, 1_000, 9, 4, 10,
		16, 20, 100, 3, 6, 15, 3, 4,
		6, 6, 4, 60, 2_000, 3_000,
	}
	if !reflect.DeepEqual(got, want) {
		t.Errorf("the constants are %v, want %v", got, want)
	}
}

// TestInt checks that the machine has the integers that are needed (Z4).
func TestInt(t *testing.T) {
	if strconv.IntSize != 64 {
		t.Errorf("int has %d bits, want 64", strconv.IntSize)
	}
}

// TestLongData passes more data than any limit of a chapter allows, but less
// than the document allows for a run (Z5).
func TestLongData(t *testing.T) {
	const many = 1 << 20
	long := []any{
		math.MaxInt, make([]int, many), slicesOf(many), strings.Repeat("det\n", many),
	}
	for _, f := range functions() {
		kind := reflect.TypeOf(f.call)
		var args []reflect.Value
		for i := range kind.NumIn() {
			arg := samples(kind.In(i)).Index(0)
			for _, l := range long {
				if reflect.TypeOf(l) == kind.In(i) {
					arg = reflect.ValueOf(l)
				}
			}
			args = append(args, arg)
		}
		results, panicked := call(f, args)
		if panicked != nil {
			t.Errorf("%s of long data panics: %v", f.name, panicked)
			continue
		}
		if err, _ := failure(results); err != nil {
			if s := complain(f, results, err); s != "" {
				t.Errorf("%s of long data %s", f.name, s)
			}
		}
	}
}

// slicesOf returns many rows of one number.
func slicesOf(many int) [][]int {
	m := make([][]int, many)
	for i := range m {
		m[i] = []int{1}
	}
	return m
}
