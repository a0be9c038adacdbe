package tests

import (
	"reflect"
	"runtime"
	"slices"
	"sync"
	"testing"
)

const spareSign = 7777

// withSpare is a deep copy of v, in which each list has room behind its length; what fills that room is told apart from all that stands in the lists of the tests.
func withSpare[T any](v T) T {
	return spareOf(reflect.ValueOf(&v).Elem()).Interface().(T)
}

func spareOf(v reflect.Value) reflect.Value {
	out := reflect.New(v.Type()).Elem()
	switch v.Kind() {
	case reflect.Slice:
		const room = 16
		list := reflect.MakeSlice(v.Type(), v.Len()+room, v.Len()+room)
		for i := range v.Len() {
			list.Index(i).Set(spareOf(v.Index(i)))
		}
		for i := range room {
			fillSign(list.Index(v.Len() + i))
		}
		out.Set(list.Slice(0, v.Len()))
	case reflect.Struct:
		for i := range v.NumField() {
			out.Field(i).Set(spareOf(v.Field(i)))
		}
	default:
		out.Set(v)
	}
	return out
}

// fillSign puts spareSign for each number of v, the other way round for each flag, a text and a list of one for what is empty.
func fillSign(v reflect.Value) {
	switch v.Kind() {
	case reflect.Int:
		v.SetInt(spareSign)
	case reflect.Bool:
		v.SetBool(!v.Bool())
	case reflect.String:
		v.SetString(v.String() + "spare")
	case reflect.Slice:
		if v.Len() == 0 {
			v.Set(reflect.MakeSlice(v.Type(), 1, 1))
		}
		for i := range v.Len() {
			fillSign(v.Index(i))
		}
	case reflect.Struct:
		for i := range v.NumField() {
			fillSign(v.Field(i))
		}
	}
}

// withRoomOf is a deep copy of v in which each list is as long as its room, so that what is written behind a list's length is seen in it.
func withRoomOf[T any](v T) T {
	return copyOf(reflect.ValueOf(&v).Elem(), true).Interface().(T)
}

// deepCopy shares no list with v.
func deepCopy[T any](v T) T {
	return copyOf(reflect.ValueOf(&v).Elem(), false).Interface().(T)
}

func copyOf(v reflect.Value, room bool) reflect.Value {
	out := reflect.New(v.Type()).Elem()
	switch v.Kind() {
	case reflect.Slice:
		if room {
			v = v.Slice(0, v.Cap())
		}
		list := reflect.MakeSlice(v.Type(), v.Len(), v.Len())
		for i := range v.Len() {
			list.Index(i).Set(copyOf(v.Index(i), room))
		}
		out.Set(list)
	case reflect.Struct:
		for i := range v.NumField() {
			out.Field(i).Set(copyOf(v.Field(i), room))
		}
	default:
		out.Set(v)
	}
	return out
}

// alike tells whether a and b are the same where an empty list and nil are.
func alike[T any](a, b T) bool {
	return reflect.DeepEqual(deepCopy(a), deepCopy(b))
}

// A block is the memory of one list with the room behind it.
type block struct {
	from, end uintptr
}

func blocksOf(v reflect.Value) []block {
	var out []block
	switch v.Kind() {
	case reflect.Slice:
		from := v.Pointer()
		if size := uintptr(v.Cap()) * v.Type().Elem().Size(); size > 0 {
			out = append(out, block{from, from + size})
		}
		for i := range v.Len() {
			out = append(out, blocksOf(v.Index(i))...)
		}
	case reflect.Struct:
		for i := range v.NumField() {
			out = append(out, blocksOf(v.Field(i))...)
		}
	}
	return out
}

// checkApart fails where two lists of the values, or of one of them, share memory.
func checkApart(t *testing.T, name string, values ...any) {
	t.Helper()
	var all []block
	for _, v := range values {
		all = append(all, blocksOf(reflect.ValueOf(v))...)
	}
	slices.SortFunc(all, func(a, b block) int {
		if a.from < b.from {
			return -1
		}
		return 1
	})
	for i := 1; i < len(all); i++ {
		if all[i].from < all[i-1].end {
			t.Errorf("%s: two lists share memory", name)
			return
		}
	}
}

// keeping calls with v, and fails where v, or the room behind one of its lists, is another one then.
func keeping[T any](t *testing.T, name string, v T, call func(v T)) {
	t.Helper()
	before := withRoomOf(v)
	call(v)
	if !reflect.DeepEqual(withRoomOf(v), before) {
		t.Errorf("%s: the argument %+v is written into", name, v)
	}
}

// checkKept fails where x, or the room behind it, is no longer as withSpare made it of want.
func checkKept(t *testing.T, name string, x, want []int) {
	t.Helper()
	if !slices.Equal(x, want) {
		t.Errorf("%s: the argument %v has become %v", name, want, x)
	}
	for _, a := range x[len(x):cap(x)] {
		if a != spareSign {
			t.Errorf("%s: %d is written behind the argument %v", name, a, want)
			return
		}
	}
}

// overwrite changes all of a list, and the room behind it.
func overwrite(x []int, sign int) {
	x = x[:cap(x)]
	for i := range x {
		x[i] = sign
	}
}

// byMany has eight goroutines ask at once, each of them n times, on one, two and eight threads: what a call keeps would be seen by another one.
func byMany(n int, ask func()) {
	before := runtime.GOMAXPROCS(0)
	defer runtime.GOMAXPROCS(before)
	for _, procs := range []int{1, 2, 8} {
		runtime.GOMAXPROCS(procs)
		var asking sync.WaitGroup
		for range 8 {
			asking.Go(func() {
				for range n {
					ask()
				}
			})
		}
		asking.Wait()
	}
}
