package tests

// What promise 1 asks of every function, checked for lists of calls: a call returns, leaves its arguments as they are,
// returns new memory, zero values beside a failure, and the same results whenever and beside whatever it is made.

import (
	"fmt"
	"reflect"
	"strings"
	"sync"
	"testing"
)

// aCall is a function with arguments.
type aCall struct {
	name string
	fn   any
	args []any
}

// String returns a short text of the call, for messages.
func (c aCall) String() string {
	text := fmt.Sprintf("%s%v", c.name, c.args)
	if len(text) > 300 {
		return text[:300] + ".."
	}
	return text
}

// callList is a list of calls that grows.
type callList []aCall

// add puts one call to the list.
func (l *callList) add(name string, fn any, args ...any) {
	*l = append(*l, aCall{name, fn, args})
}

// valuesOf returns all values of a list as arguments.
func valuesOf[T any](list []T) []any {
	var values []any
	for _, v := range list {
		values = append(values, v)
	}
	return values
}

// addAll puts a call to the list for every choice of one argument from each of the columns.
func (l *callList) addAll(name string, fn any, columns ...[]any) {
	rows := [][]any{nil}
	for _, column := range columns {
		var longer [][]any
		for _, row := range rows {
			for _, v := range column {
				longer = append(longer, append(append([]any(nil), row...), v))
			}
		}
		rows = longer
	}
	for _, row := range rows {
		l.add(name, fn, row...)
	}
}

// emptiness tells how a copy shows an empty slice.
type emptiness int

const (
	asGiven emptiness = iota
	asNil
	asEmpty
)

// markedValue returns a value that is made to be recognized, for the unused capacity of slices.
func markedValue(t reflect.Type) reflect.Value {
	v := reflect.New(t).Elem()
	switch t.Kind() {
	case reflect.Int64:
		v.SetInt(mark)
	case reflect.String:
		v.SetString("mark")
	case reflect.Bool:
		v.SetBool(true)
	case reflect.Slice:
		v.Set(reflect.Append(v, markedValue(t.Elem())))
	case reflect.Struct:
		for i := range t.NumField() {
			v.Field(i).Set(markedValue(t.Field(i).Type))
		}
	}
	return v
}

// deepCopy returns a copy that shares no memory, in which each slice has three marked elements behind its end.
func deepCopy(v reflect.Value, empty emptiness) reflect.Value {
	made := reflect.New(v.Type()).Elem()
	switch v.Kind() {
	case reflect.Slice:
		if v.Len() == 0 && (empty == asNil || v.IsNil() && empty == asGiven) {
			return made
		}
		spare := 3
		if v.Len() == 0 && empty == asEmpty {
			spare = 0
		}
		made.Set(reflect.MakeSlice(v.Type(), v.Len()+spare, v.Len()+spare))
		for i := range v.Len() {
			made.Index(i).Set(deepCopy(v.Index(i), empty))
		}
		for i := range spare {
			made.Index(v.Len() + i).Set(markedValue(v.Type().Elem()))
		}
		made.Set(made.Slice(0, v.Len()))
	case reflect.Struct:
		for i := range v.NumField() {
			made.Field(i).Set(deepCopy(v.Field(i), empty))
		}
	default:
		made.Set(v)
	}
	return made
}

// region is a part of the memory, with an end that is not in it.
type region struct {
	start, end uintptr
}

// regionsOf returns the memory of all slices of a value, with their unused capacity.
func regionsOf(v reflect.Value) []region {
	var regions []region
	switch v.Kind() {
	case reflect.Slice:
		if v.Cap() == 0 || v.Type().Elem().Size() == 0 {
			return nil
		}
		start := v.Pointer()
		regions = append(regions, region{start, start + uintptr(v.Cap())*v.Type().Elem().Size()})
		for i := range v.Len() {
			regions = append(regions, regionsOf(v.Index(i))...)
		}
	case reflect.Struct:
		for i := range v.NumField() {
			regions = append(regions, regionsOf(v.Field(i))...)
		}
	}
	return regions
}

// wholeText returns a text of a value with the unused capacity of its slices.
func wholeText(v reflect.Value) string {
	switch v.Kind() {
	case reflect.Slice:
		var b strings.Builder
		all := v.Slice(0, v.Cap())
		fmt.Fprintf(&b, "%d of %d[", v.Len(), v.Cap())
		for i := range all.Len() {
			b.WriteString(wholeText(all.Index(i)) + " ")
		}
		return b.String() + "]"
	case reflect.Struct:
		var b strings.Builder
		for i := range v.NumField() {
			b.WriteString(wholeText(v.Field(i)) + ";")
		}
		return "{" + b.String() + "}"
	case reflect.String:
		return fmt.Sprintf("%q", v.String())
	}
	return fmt.Sprint(v.Interface())
}

// outcome is what a call was made with and what it returned.
type outcome struct {
	args, results []reflect.Value
}

// do calls the function with copies of the arguments.
func (c aCall) do(empty emptiness) (m outcome, failure any) {
	defer func() { failure = recover() }()
	for _, a := range c.args {
		m.args = append(m.args, deepCopy(reflect.ValueOf(a), empty))
	}
	m.results = reflect.ValueOf(c.fn).Call(m.args)
	return m, nil
}

// resultText returns the text of the results of the call, in which nil and empty slices are the same.
func (c aCall) resultText(empty emptiness) string {
	m, failure := c.do(empty)
	if failure != nil {
		return fmt.Sprint("panic ", failure)
	}
	var results []any
	for _, r := range m.results {
		results = append(results, r.Interface())
	}
	return show(results...)
}

// isEmptyValue reports whether a value is the zero value of its type, or a slice without elements.
func isEmptyValue(v reflect.Value) bool {
	switch v.Kind() {
	case reflect.Slice:
		return v.Len() == 0
	case reflect.Struct:
		for i := range v.NumField() {
			if !isEmptyValue(v.Field(i)) {
				return false
			}
		}
		return true
	}
	return v.IsZero()
}

// checkArguments fails the test if the call changes an argument, its unused capacity, or which memory it consists of.
func (c aCall) checkArguments(t *testing.T) {
	t.Helper()
	before, failure := "", any(nil)
	var args []reflect.Value
	for _, a := range c.args {
		args = append(args, deepCopy(reflect.ValueOf(a), asGiven))
		before += wholeText(args[len(args)-1]) + fmt.Sprint(regionsOf(args[len(args)-1]))
	}
	func() {
		defer func() { failure = recover() }()
		reflect.ValueOf(c.fn).Call(args)
	}()
	after := ""
	for _, a := range args {
		after += wholeText(a) + fmt.Sprint(regionsOf(a))
	}
	if failure != nil || after != before {
		t.Errorf("%s: panic %v, or arguments changed from %s to %s", c, failure, before, after)
	}
}

// checkMemory fails the test if a slice of the results shares memory with an argument or with another one of them.
func (c aCall) checkMemory(t *testing.T) {
	t.Helper()
	m, failure := c.do(asGiven)
	if failure != nil {
		t.Errorf("%s: panic %v", c, failure)
		return
	}
	var regions []region
	for _, r := range m.results {
		regions = append(regions, regionsOf(r)...)
	}
	own := len(regions)
	for _, a := range m.args {
		regions = append(regions, regionsOf(a)...)
	}
	for i, a := range regions[:own] {
		for _, b := range regions[i+1:] {
			if a.start < b.end && b.start < a.end {
				t.Errorf("%s: results share memory with arguments or with each other", c)
				return
			}
		}
	}
}

// checkFailure fails the test if the call fails and returns anything else than zero values.
func (c aCall) checkFailure(t *testing.T) {
	t.Helper()
	m, failure := c.do(asGiven)
	if failure != nil || len(m.results) < 2 || m.results[len(m.results)-1].Kind() != reflect.Bool || m.results[len(m.results)-1].Bool() {
		return
	}
	for i, r := range m.results {
		if !isEmptyValue(r) {
			t.Errorf("%s fails, but its result %d is %v", c, i, r)
		}
	}
}

// expectConventions fails the test if one of the calls is not as promise 1 asks.
func expectConventions(t *testing.T, calls callList) {
	t.Helper()
	first := make([]string, len(calls))
	for i, c := range calls {
		first[i] = c.resultText(asGiven)
		c.checkArguments(t)
		c.checkMemory(t)
		c.checkFailure(t)
	}
	for i := len(calls) - 1; i >= 0; i-- {
		for _, empty := range []emptiness{asGiven, asNil, asEmpty} {
			if again := calls[i].resultText(empty); again != first[i] {
				t.Errorf("%s: first %s, later %s", calls[i], first[i], again)
			}
		}
	}
	var group sync.WaitGroup
	for range 3 {
		group.Go(func() {
			for i, c := range calls {
				if again := c.resultText(asGiven); again != first[i] {
					t.Errorf("%s: alone %s, beside others %s", c, first[i], again)
				}
			}
		})
	}
	group.Wait()
}
