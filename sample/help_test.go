package sample_test

import (
	"math"
	"math/rand/v2"
	"reflect"
	"slices"
	"strconv"
	"strings"
	"testing"

	"paperchase/api"
)

// is compares values; an empty and a nil list are the same (Z5), also within others.
func is(t *testing.T, got, want any) {
	t.Helper()
	if !reflect.DeepEqual(same(got), same(want)) {
		t.Errorf("got %+v, want %+v", got, want)
	}
}

// gives checks a result that comes without an error.
func gives(t *testing.T, got any, e api.Errno, want any) {
	t.Helper()
	is(t, e, api.OK)
	is(t, got, want)
}

// fails checks an error, and that the other result is a zero value (Z3).
func fails(t *testing.T, result any, e, want api.Errno) {
	t.Helper()
	if e != want {
		t.Errorf("got error %d, want %d", e, want)
	}
	if v := reflect.ValueOf(result); !v.IsZero() && !(v.Kind() == reflect.Slice && v.Len() == 0) {
		t.Errorf("with error %d got %+v", e, result)
	}
}

// copied returns a copy of a value in new memory, with lists made by a function.
func copied(v reflect.Value, list func(v reflect.Value) reflect.Value) reflect.Value {
	switch v.Kind() {
	case reflect.Slice:
		l := list(v)
		for i := range l.Len() {
			l.Index(i).Set(copied(l.Index(i), list))
		}
		return l
	case reflect.Struct:
		x := reflect.New(v.Type()).Elem()
		for i := range v.NumField() {
			x.Field(i).Set(copied(v.Field(i), list))
		}
		return x
	case reflect.Interface:
		if !v.IsNil() {
			return copied(v.Elem(), list)
		}
	}
	return v
}

// same returns a copy of a value in which no list is nil.
func same(x any) any {
	return copied(reflect.ValueOf(&x).Elem(), func(v reflect.Value) reflect.Value {
		l := reflect.MakeSlice(v.Type(), v.Len(), v.Len())
		reflect.Copy(l, v)
		return l
	}).Interface()
}

// roomy returns a copy of a value of which each list has room for one element more.
func roomy[T any](x T) T {
	return copied(reflect.ValueOf(x), func(v reflect.Value) reflect.Value {
		l := reflect.MakeSlice(v.Type(), v.Len(), v.Len()+1)
		reflect.Copy(l, v)
		return l
	}).Interface().(T)
}

// filled returns a copy of a value of which each list also has what is in its memory after its length.
func filled(x any) any {
	return copied(reflect.ValueOf(x), func(v reflect.Value) reflect.Value {
		l := reflect.MakeSlice(v.Type(), v.Cap(), v.Cap())
		reflect.Copy(l, v.Slice(0, v.Cap()))
		return l
	}).Interface()
}

// keeps checks that a call changes none of its arguments, which are roomy, and that its result shares memory neither with them nor within itself (Z2).
func keeps(t *testing.T, call func() any, arguments ...any) {
	t.Helper()
	before := filled(arguments)
	result := call()
	if !reflect.DeepEqual(filled(arguments), before) {
		t.Errorf("changed to %+v", arguments)
	}
	taken := map[uintptr]bool{}
	eachList(reflect.ValueOf(append([]any{result}, arguments...)), func(l reflect.Value) {
		for i := range l.Cap() {
			at := l.Slice(0, l.Cap()).Index(i).Addr().Pointer()
			if taken[at] {
				t.Errorf("shared: %+v", l)
				return
			}
			taken[at] = true
		}
	})
}

// eachList calls a function with each list of a value, but for lists of anything.
func eachList(v reflect.Value, call func(l reflect.Value)) {
	switch v.Kind() {
	case reflect.Slice:
		if v.Type().Elem().Kind() != reflect.Interface {
			call(v)
		}
		for i := range v.Len() {
			eachList(v.Index(i), call)
		}
	case reflect.Struct:
		for i := range v.NumField() {
			eachList(v.Field(i), call)
		}
	case reflect.Interface:
		eachList(v.Elem(), call)
	}
}

func words(s string) []string { return strings.Fields(s) }

// names makes names that are in order.
func names(start string, many int) []string {
	var l []string
	for i := range many {
		l = append(l, start+strconv.Itoa(1_000_000 + i)[1:])
	}
	return l
}

// someOf returns some of the elements of a list, in order.
func someOf[T any](r *rand.Rand, l []T) []T {
	some := r.IntN(5)
	return slices.DeleteFunc(slices.Clone(l), func(T) bool { return r.IntN(4) >= some })
}

func fraction(num, den int) api.Fraction { return api.Fraction{Num: num, Den: den} }

// outside are numbers that are not from least to most.
func outside(least, most int) []int {
	return []int{least - 1, most + 1, least + 1<<32, -most - 1, math.MinInt, math.MaxInt}
}

// badKeys are no keys.
func badKeys() []string {
	return []string{"", "A", "9a", "-a", "_a", "a b", "a.", "ä", "a\n", "a\x00", strings.Repeat("k", api.MaxName+1)}
}

// badShares are no fractions from 0 to 1.
func badShares() []api.Fraction {
	return []api.Fraction{
		{}, fraction(1, 0), fraction(0, -1), fraction(-1, -1), fraction(-1, 1), fraction(-1, 2), fraction(1, -2),
		fraction(2, 1), fraction(3, 2), fraction(1_000_001, 1_000_000), fraction(0, 1_000_001), fraction(1_000_001, 1_000_001),
		fraction(math.MinInt, 1), fraction(math.MaxInt, 1), fraction(0, math.MinInt), fraction(0, math.MaxInt), fraction(math.MaxInt, math.MaxInt),
	}
}

// badIds are lists of ids that are not right.
func badIds() map[api.Errno][][]string {
	l := map[api.Errno][][]string{
		api.ErrLarge: {names("i", api.MaxItems+1), make([]string, api.MaxItems+1)},
		api.ErrOrder: {words("b a"), words("a a"), words("a c b"), words("b a A"), words("a b c a"), words("a b b B")},
	}
	for _, key := range badKeys() {
		l[api.ErrName] = append(l[api.ErrName], []string{key}, []string{"b", key}, []string{"a", key, "a"}, append(names("i", api.MaxItems-1), key))
	}
	return l
}

// eachBadSource calls a function with ids and seeds that are not right.
func eachBadSource(t *testing.T, call func(ids []string, seed string) (any, api.Errno)) {
	t.Helper()
	for want, lists := range badIds() {
		for _, ids := range lists {
			for _, seed := range []string{"seed", ""} {
				got, e := call(ids, seed)
				fails(t, got, e, want)
			}
		}
	}
	for _, seed := range badKeys() {
		for _, ids := range [][]string{nil, words("a b")} {
			got, e := call(ids, seed)
			fails(t, got, e, api.ErrName)
		}
	}
}
