// Package rules asks all calls of all layers for what DOC.md's rules R1 to R4 say of every one of them.
package rules_test

import (
	"fmt"
	"math"
	"math/rand"
	"reflect"
	"slices"
	"strings"
	"testing"
	"time"

	"simile/api"
	"simile/crt"
)

// maker tells arguments of any kind: ordinary ones, such at their ends, and such that may not be.
type maker struct{ *rand.Rand }

func pick[T any](m maker, l ...T) T { return l[m.Intn(len(l))] }

func (m maker) word() uint32 {
	return pick(m, 0, 1, 2, 3, 4, 5, 7, 7, 7, 9, 11, 101, 65537, 4294967291, math.MaxUint32, m.Uint32())
}

func (m maker) number() api.Int {
	x := api.Int{Neg: m.Intn(2) == 0}
	switch m.Intn(12) {
	case 0:
		return x
	case 1:
		x.Mag = make(api.Nat, pick(m, 129, 130, 3))
		x.Mag[len(x.Mag)-1] = pick[uint32](m, 0, 1, math.MaxUint32)
	default:
		x.Mag = api.Nat{pick[uint32](m, 0, 1, 1, 2, 3, 5)}
	}
	if m.Intn(3) == 0 {
		x.Mag = append(x.Mag, 0)
	}
	return x
}

func (m maker) den() api.Int {
	x := api.Int{Neg: m.Intn(4) == 0, Mag: api.Nat{pick[uint32](m, 1, 1, 2, 6)}}
	if m.Intn(25) == 0 {
		x.Mag[0] = 0
	}
	return x
}

// rows tells rows of numbers: square ones most of the time, ragged ones now and then.
func (m maker) rows() [][]api.Int {
	r := m.Intn(4) + 1
	c := r
	if m.Intn(5) == 0 {
		c = m.Intn(4)
	}
	if m.Intn(60) == 0 {
		r, c = 25, 25
	}
	if m.Intn(25) == 0 {
		r = 0
	}
	out := make([][]api.Int, r)
	easy := r == 25 || m.Intn(4) > 0
	for i := range out {
		out[i] = make([]api.Int, c)
		for k := range out[i] {
			if out[i][k] = m.number(); easy && len(out[i][k].Mag) > 2 {
				out[i][k] = api.Int{}
			}
		}
	}
	if r > 0 && m.Intn(25) == 0 {
		out[r-1] = append(out[r-1], api.Int{})
	}
	return out
}

// special tells arguments of api's own types.
func (m maker) special(t reflect.Type) (any, bool) {
	switch t {
	case reflect.TypeFor[api.Int]():
		return m.number(), true
	case reflect.TypeFor[api.Rat]():
		return api.Rat{Num: m.number(), Den: m.den()}, true
	case reflect.TypeFor[[][]api.Int]():
		return m.rows(), true
	case reflect.TypeFor[api.Mat]():
		return api.Mat{Den: m.den(), Num: m.rows()}, true
	case reflect.TypeFor[api.Vec]():
		out := api.Vec{Den: m.den()}
		for range m.Intn(4) + 1 {
			out.Num = append(out.Num, m.number())
		}
		return out, true
	case reflect.TypeFor[api.Space]():
		n := m.Intn(4)
		s := api.Space{N: n, Basis: api.Mat{Den: api.Int{Mag: api.Nat{1}}}}
		for i := range m.Intn(n + 1) {
			row := make([]api.Int, n)
			row[i] = api.Int{Mag: api.Nat{1, 0}}
			s.Basis.Num = append(s.Basis.Num, row)
		}
		if m.Intn(6) == 0 {
			s = api.Space{N: pick(m, -1, 2, 1001), Basis: api.Mat{Den: m.den(), Num: m.rows()}}
		}
		return s, true
	case reflect.TypeFor[uint32]():
		return m.word(), true
	case reflect.TypeFor[uint64]():
		return pick(m, 0, 1, 2, 3, 10, math.MaxUint64, m.Uint64()), true
	case reflect.TypeFor[int64]():
		return pick(m, 0, 1, -1, math.MinInt64, math.MaxInt64), true
	case reflect.TypeFor[int]():
		return pick(m, -1, 0, 1, 2, 2, 3, 3, 4, 5, 24, 25, 37, 100, 101, 1001, 10001, math.MinInt, math.MaxInt), true
	case reflect.TypeFor[string]():
		parts := []string{"1", "2/3", "-4", " ", " ", ",", ";", "\n", "let A [1 2; 3 4]\n", "char A\n", "similar A [0 1; 1 0]\n", "x", "\xff", "\u2212", "berkowitz", "modular", "#", "[", "]"}
		out := ""
		for range m.Intn(6) {
			out += pick(m, parts...)
		}
		return out, true
	case reflect.TypeFor[*crt.Crt]():
		return crt.New(), true
	}
	return nil, false
}

// value tells an argument of any type, with spare room behind its lists now and then.
func (m maker) value(t reflect.Type) reflect.Value {
	if x, ok := m.special(t); ok {
		return reflect.ValueOf(x).Convert(t)
	}
	out := reflect.New(t).Elem()
	switch t.Kind() {
	case reflect.Slice:
		n := m.Intn(5)
		out = reflect.MakeSlice(t, n, n+m.Intn(3))
		if m.Intn(6) == 0 {
			return reflect.Zero(t)
		}
		for i := range n {
			out.Index(i).Set(m.value(t.Elem()))
		}
		if t.Elem().Kind() == reflect.Slice && n > 0 && m.Intn(8) > 0 { // rows: equally long most of the time
			for i := range n {
				row := reflect.MakeSlice(t.Elem(), n, n)
				for k := range n {
					row.Index(k).Set(m.value(t.Elem().Elem()))
				}
				out.Index(i).Set(row)
			}
		}
	case reflect.Struct:
		for i := range t.NumField() {
			out.Field(i).Set(m.value(t.Field(i).Type))
		}
	case reflect.Bool:
		out.SetBool(m.Intn(2) == 0)
	case reflect.Int:
		out.SetInt(int64(m.Intn(20) - 2))
	}
	return out
}

// arguments of a call; of a list that may have any number of parts that list.
func (m maker) arguments(t reflect.Type) []reflect.Value {
	var out []reflect.Value
	for i := range t.NumIn() {
		out = append(out, m.value(t.In(i)))
	}
	return out
}

func ask(f reflect.Value, in []reflect.Value) []reflect.Value {
	if f.Type().IsVariadic() {
		return f.CallSlice(in)
	}
	return f.Call(in)
}

// told: the answers, and of iterators the first things that they tell.
func told(out []reflect.Value) []reflect.Value {
	var all []reflect.Value
	for _, x := range out {
		if x.Kind() != reflect.Func {
			all = append(all, x)
			continue
		}
		if x.IsNil() {
			continue
		}
		count := 0
		if x.Type().In(0).NumIn() == 2 {
			for a, b := range x.Seq2() {
				all = append(all, a, b)
				if count++; count == 5 {
					break
				}
			}
			continue
		}
		for a := range x.Seq() {
			all = append(all, a)
			if count++; count == 5 {
				break
			}
		}
	}
	return all
}

// rooms tells all that a value holds, with what stands in its lists' spare room.
func rooms(v reflect.Value) string {
	out := "("
	switch v.Kind() {
	case reflect.Slice:
		all := v.Slice(0, v.Cap())
		for i := range all.Len() {
			out += rooms(all.Index(i))
		}
	case reflect.Struct:
		for i := range v.NumField() {
			out += rooms(v.Field(i))
		}
	case reflect.Interface, reflect.Pointer, reflect.Func, reflect.Map:
	default:
		out += fmt.Sprint(v)
	}
	return out + ")"
}

type span struct{ from, to uintptr }

// spans tells the memory of all lists that a value holds, with their spare room.
func spans(v reflect.Value) []span {
	var out []span
	switch v.Kind() {
	case reflect.Slice:
		if v.Cap() > 0 {
			out = append(out, span{v.Pointer(), v.Pointer() + uintptr(v.Cap())*v.Type().Elem().Size()})
		}
		for i := range v.Len() {
			out = append(out, spans(v.Index(i))...)
		}
	case reflect.Struct:
		for i := range v.NumField() {
			out = append(out, spans(v.Field(i))...)
		}
	}
	return out
}

func text(l []reflect.Value) string {
	out := ""
	for _, v := range l {
		if v.Kind() != reflect.Interface && v.Kind() != reflect.Pointer {
			out += fmt.Sprint(v) + "|"
		}
	}
	return out
}

// places are calls that tell beside an error where it is.
var places = []string{"numeral.Row", "numeral.Matrix", "session.Check", "session.Play"}

// checkError: beside an error all other results are zero.
func checkError(t *testing.T, name string, out []reflect.Value) {
	t.Helper()
	last := out[len(out)-1]
	if last.Type() != reflect.TypeFor[api.Errno]() || last.Int() == 0 || slices.Contains(places, name) {
		return
	}
	for _, x := range out[:len(out)-1] {
		if !x.IsZero() && !(x.Kind() == reflect.Slice && x.Len() == 0) {
			t.Errorf("%s: %v beside error %d", name, x, last.Int())
		}
	}
}

// try asks a call once with some arguments, and once again.
func try(t *testing.T, name string, f reflect.Value, in []reflect.Value) {
	t.Helper()
	before := ""
	var given []span
	for _, x := range in {
		before += rooms(x)
		given = append(given, spans(x)...)
	}
	defer func() {
		if r := recover(); r != nil {
			t.Errorf("%s panics: %v, of %.300s", name, r, before)
		}
	}()
	out := ask(f, in)
	checkError(t, name, out)
	all := told(out)
	answers := []span{}
	for _, x := range all {
		answers = append(answers, spans(x)...)
	}
	for i, a := range answers {
		for _, b := range append(answers[i+1:len(answers):len(answers)], given...) {
			if a.from < b.to && b.from < a.to {
				t.Errorf("%s: an answer shares memory, of %.300s", name, before)
				return
			}
		}
	}
	after := ""
	for _, x := range in {
		after += rooms(x)
	}
	if after != before {
		t.Errorf("%s changes what is handed in: %.300s", name, before)
	}
	if a, b := text(all), text(told(ask(f, in))); a != b {
		t.Errorf("%s answers %.200s, then %.200s", name, a, b)
	}
}

func TestRules(t *testing.T) { // R1, R2, R3, R4
	for name, call := range calls() {
		f := reflect.ValueOf(call)
		m := maker{rand.New(rand.NewSource(int64(len(name))))}
		tries := 60
		if strings.HasPrefix(name, "nat.") || strings.HasPrefix(name, "zint.") || strings.HasPrefix(name, "prime.") {
			tries = 200
		}
		for range tries {
			in := m.arguments(f.Type())
			start := time.Now()
			try(t, name, f, in)
			if took := time.Since(start); took > 20*time.Second {
				t.Errorf("%s takes %v", name, took)
			}
		}
	}
}

func TestNothing(t *testing.T) { // R1, R3: nil and empty lists are the same, and zero values of all kinds may be handed in
	for name, call := range calls() {
		f := reflect.ValueOf(call)
		var zero, empty []reflect.Value
		for i := range f.Type().NumIn() {
			x := reflect.Zero(f.Type().In(i))
			y := x
			if x.Kind() == reflect.Slice {
				y = reflect.MakeSlice(x.Type(), 0, 3)
			}
			zero, empty = append(zero, x), append(empty, y)
		}
		try(t, name, f, zero)
		try(t, name, f, empty)
		if a, b := text(told(ask(f, zero))), text(told(ask(f, empty))); a != b {
			t.Errorf("%s answers %s of nil, %s of empty lists", name, a, b)
		}
	}
}
