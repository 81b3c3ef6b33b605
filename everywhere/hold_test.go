// Package everywhere holds calls of all layers against what the document asks of
// every call (P0.1 to P0.4, P0.8).
package everywhere

import (
	"cmp"
	"reflect"
	"runtime"
	"slices"
	"testing"

	"ashlar/api"
)

// call is a function of the program with lists of arguments for it.
type call struct {
	name string
	ask  any
	args [][]any
}

// hold asks a call for each list of arguments twice: with lists that have spare
// room, none of them nil, and with lists that have none, the empty ones nil.
func hold(t *testing.T, c call) {
	t.Helper()
	for _, args := range c.args {
		room, bare := rebuildAll(args, withRoom), rebuildAll(args, withoutRoom)
		first, second := askUnchanged(t, c, room), askUnchanged(t, c, bare)
		if !reflect.DeepEqual(plain(first), plain(second)) {
			t.Errorf("P0.4, P0.8: %s%v: %v, then %v", c.name, plain(args), plain(first), plain(second))
		}
		if isRefused(first) && !isNothing(first[:len(first)-1]) {
			t.Errorf("P0.2: %s%v: %v", c.name, plain(args), plain(first))
		}
		if share(room, bare, first, second) {
			t.Errorf("P0.3: %s%v: shares memory", c.name, plain(args))
		}
	}
}

// askUnchanged asks a call and looks whether it changes its arguments.
func askUnchanged(t *testing.T, c call, args []any) (out []any) {
	t.Helper()
	before := rebuildAll(args, withRoomTaken)
	defer func() {
		if r := recover(); r != nil {
			t.Fatalf("P0.1: %s%v: panics: %v", c.name, plain(args), r)
		}
	}()
	values := make([]reflect.Value, len(args))
	for i, a := range args {
		values[i] = reflect.ValueOf(a)
	}
	for _, v := range reflect.ValueOf(c.ask).Call(values) {
		out = append(out, v.Interface())
	}
	if !reflect.DeepEqual(before, rebuildAll(args, withRoomTaken)) {
		t.Errorf("P0.3: %s%v: changes an argument", c.name, plain(args))
	}
	return out
}

// isRefused tells whether the last result says that there is nothing.
func isRefused(out []any) bool {
	last := out[len(out)-1]
	if e, ok := last.(api.Errno); ok {
		return e != api.OK
	}
	return last == false
}

func isNothing(out []any) bool {
	for _, v := range plain(out) {
		if !reflect.DeepEqual(v, zeroLike(v)) {
			return false
		}
	}
	return true
}

// zeroLike gives the zero value of v's type, as the document reads it.
func zeroLike(v any) any {
	one := api.Int{L: []uint32{1}}
	switch v.(type) {
	case api.Rat:
		return api.Rat{Den: one}
	case api.Fun:
		return api.Fun{Den: api.Poly{one}}
	}
	return reflect.Zero(reflect.TypeOf(v)).Interface()
}

// plain gives the same values for comparing and telling.
func plain(values []any) []any { return rebuildAll(values, withoutRoom) }

func rebuildAll(values []any, list func(reflect.Value) reflect.Value) []any {
	out := make([]any, len(values))
	for i, v := range values {
		out[i] = rebuild(reflect.ValueOf(v), list).Interface()
	}
	return out
}

// rebuild gives a value again whose lists are those that list makes of its own.
func rebuild(v reflect.Value, list func(reflect.Value) reflect.Value) reflect.Value {
	switch v.Kind() {
	case reflect.Struct:
		out := reflect.New(v.Type()).Elem()
		for i := range v.NumField() {
			out.Field(i).Set(rebuild(v.Field(i), list))
		}
		return out
	case reflect.Slice:
		return list(v)
	}
	return v
}

func withoutRoom(v reflect.Value) reflect.Value {
	if v.Len() == 0 {
		return reflect.Zero(v.Type())
	}
	return copied(v, v.Len(), withoutRoom)
}

func withRoom(v reflect.Value) reflect.Value {
	n := v.Len()
	out := copied(v, n+2, withRoom)
	for i := n; i < n+2; i++ {
		out.Index(i).Set(mark(v.Type().Elem()))
	}
	return out.Slice(0, n)
}

// withRoomTaken makes elements of what is spare room.
func withRoomTaken(v reflect.Value) reflect.Value {
	return copied(v.Slice(0, v.Cap()), v.Cap(), withRoomTaken)
}

func copied(v reflect.Value, room int, list func(reflect.Value) reflect.Value) reflect.Value {
	out := reflect.MakeSlice(v.Type(), room, room)
	for i := range v.Len() {
		out.Index(i).Set(rebuild(v.Index(i), list))
	}
	return out
}

// mark gives something of a type that no call writes by chance.
func mark(kind reflect.Type) reflect.Value {
	out := reflect.New(kind).Elem()
	switch kind.Kind() {
	case reflect.Struct:
		for i := range kind.NumField() {
			out.Field(i).Set(mark(kind.Field(i).Type))
		}
	case reflect.Slice:
		return reflect.Append(out, mark(kind.Elem()))
	case reflect.Bool:
		out.SetBool(true)
	case reflect.Int, reflect.Int64:
		out.SetInt(0x5eadbeef)
	case reflect.Uint32:
		out.SetUint(0xdeadbeef)
	}
	return out
}

// span is the memory of a list, its spare room too.
type span struct{ from, to uintptr }

// share tells whether two lists of all these values lie in the same memory.
func share(values ...[]any) bool {
	var all []span
	for _, vs := range values {
		for _, v := range vs {
			all = append(all, spans(reflect.ValueOf(v))...)
		}
	}
	runtime.KeepAlive(values)
	slices.SortFunc(all, func(a, b span) int { return cmp.Compare(a.from, b.from) })
	for i := range all {
		if i > 0 && all[i].from < all[i-1].to {
			return true
		}
	}
	return false
}

func spans(v reflect.Value) []span {
	var out []span
	switch v.Kind() {
	case reflect.Struct:
		for i := range v.NumField() {
			out = append(out, spans(v.Field(i))...)
		}
	case reflect.Slice:
		if v.Cap() > 0 {
			from := v.Pointer()
			out = append(out, span{from, from + uintptr(v.Cap())*v.Type().Elem().Size()})
		}
		for i := range v.Len() {
			out = append(out, spans(v.Index(i))...)
		}
	}
	return out
}
