package desk_test

import (
	"math"
	"reflect"
	"testing"

	"mizmaze/api"
	"mizmaze/auto"
	"mizmaze/check"
	"mizmaze/color"
	"mizmaze/desk"
	"mizmaze/euler"
	"mizmaze/home"
	"mizmaze/maze"
	"mizmaze/mealy"
	"mizmaze/net"
	"mizmaze/proof"
	"mizmaze/reset"
	"mizmaze/sample"
	"mizmaze/short"
)

// functions returns the functions of all layers, by their names.
func functions() map[string]any {
	return map[string]any{
		"auto.Valid": auto.Valid, "auto.Run": auto.Run, "auto.Image": auto.Image, "auto.Preimage": auto.Preimage,
		"auto.Renamed": auto.Renamed, "auto.Power": auto.Power, "auto.Text": auto.Text, "auto.Parse": auto.Parse,
		"net.Connected": net.Connected, "net.Path": net.Path, "net.Sinks": net.Sinks, "net.Period": net.Period, "net.Classes": net.Classes,
		"reset.Merge": reset.Merge, "reset.Apart": reset.Apart, "reset.Reset": reset.Reset,
		"short.Shortest": short.Shortest, "short.Rank": short.Rank, "short.Cerny": short.Cerny,
		"color.Colored": color.Colored, "color.Same": color.Same, "color.Colorings": color.Colorings, "color.Road": color.Road,
		"euler.Eulerian": euler.Eulerian, "euler.Circular": euler.Circular, "euler.Extend": euler.Extend, "euler.Bound": euler.Bound,
		"mealy.Valid": mealy.Valid, "mealy.Run": mealy.Run, "mealy.Reached": mealy.Reached, "mealy.Classes": mealy.Classes,
		"mealy.Minimal": mealy.Minimal, "mealy.Apart": mealy.Apart, "mealy.Equal": mealy.Equal, "mealy.Text": mealy.Text, "mealy.Parse": mealy.Parse,
		"home.Homes": home.Homes, "home.Tells": home.Tells, "home.Home": home.Home,
		"home.Shortest": home.Shortest, "home.Telling": home.Telling, "home.Seek": home.Seek,
		"check.Cover": check.Cover, "check.Tellers": check.Tellers, "check.Suite": check.Suite, "check.Passes": check.Passes,
		"maze.Valid": maze.Valid, "maze.Connected": maze.Connected, "maze.Walk": maze.Walk, "maze.Visits": maze.Visits,
		"maze.Mazes": maze.Mazes, "maze.Check": maze.Check, "maze.Universal": maze.Universal,
		"proof.Check": proof.Check, "proof.Text": proof.Text, "proof.Parse": proof.Parse,
		"desk.Do": desk.New().Do, "desk.Play": desk.Play,
	}
}

// anyValue returns some value of a type: valid automata and machines now and then, small numbers, and what is far off.
func anyValue(next func(int) int, kind reflect.Type) reflect.Value {
	if next(3) > 0 {
		switch kind {
		case reflect.TypeFor[api.Auto]():
			return reflect.ValueOf(sample.Auto(next, 1+next(4), 1+next(3)))
		case reflect.TypeFor[api.Mealy]():
			return reflect.ValueOf(sample.Mealy(next, 1+next(4), 1+next(3), 2))
		}
	}
	v := reflect.New(kind).Elem()
	switch kind.Kind() {
	case reflect.Int:
		v.SetInt(int64([]int{next(3), next(4) - 1, next(100) - 20, math.MaxInt, math.MinInt}[next(60)/14]))
	case reflect.String:
		for range next(12) {
			v.SetString(v.String() + string("0123 ./-:x\x00"[next(11)]))
		}
	case reflect.Slice:
		for range next(5) {
			v = reflect.Append(v, anyValue(next, kind.Elem()))
		}
	case reflect.Array:
		for i := range v.Len() {
			v.Index(i).Set(anyValue(next, kind.Elem()))
		}
	case reflect.Struct:
		for i := range v.NumField() {
			v.Field(i).Set(anyValue(next, kind.Field(i).Type))
		}
	}
	return v
}

// empty reports whether a value is zero, where an empty slice is as good as nil.
func empty(v reflect.Value) bool {
	return v.IsZero() || v.Kind() == reflect.Slice && v.Len() == 0
}

func copied(values []reflect.Value) []any {
	var list []any
	for _, v := range values {
		list = append(list, deepCopy(v).Interface())
	}
	return list
}

func deepCopy(v reflect.Value) reflect.Value {
	c := reflect.New(v.Type()).Elem()
	c.Set(v)
	switch v.Kind() {
	case reflect.Slice:
		if !v.IsNil() {
			c.Set(reflect.MakeSlice(v.Type(), v.Len(), v.Len()))
		}
		for i := range v.Len() {
			c.Index(i).Set(deepCopy(v.Index(i)))
		}
	case reflect.Struct:
		for i := range v.NumField() {
			c.Field(i).Set(deepCopy(v.Field(i)))
		}
	}
	return c
}

// Whatever the arguments are: no function panics (R1), the other results are zero if there is an error (R3), the arguments
// stay as they are (R5), and the same call has the same results, even if the results of the first one were written to (R5, R6).
func TestRules(t *testing.T) {
	next := sample.Numbers(1)
	for name, f := range functions() {
		call := reflect.ValueOf(f)
		for range 300 {
			var arguments []reflect.Value
			for i := range call.Type().NumIn() {
				arguments = append(arguments, anyValue(next, call.Type().In(i)))
			}
			if name == "desk.Do" && arguments[0].String() == "asked" {
				continue
			}
			before := copied(arguments)
			results := call.Call(arguments)
			last := results[len(results)-1]
			if last.Type() == reflect.TypeFor[api.Errno]() && last.Int() != int64(api.OK) {
				for _, r := range results[:len(results)-1] {
					if !empty(r) {
						t.Fatal(name, before, results)
					}
				}
			}
			first := copied(results)
			for _, r := range results {
				scribble(r)
			}
			if !reflect.DeepEqual(copied(arguments), before) {
				t.Fatal(name, before, arguments)
			}
			if again := copied(call.Call(arguments)); !reflect.DeepEqual(again, first) {
				t.Fatal(name, before, first, again)
			}
		}
	}
}

// scribble writes over the numbers of a result, and over what lies behind the ends of its slices.
func scribble(v reflect.Value) {
	switch v.Kind() {
	case reflect.Slice:
		for i := range v.Len() {
			scribble(v.Index(i))
		}
		if v.Type().Elem().Kind() == reflect.Int {
			whole := v.Slice(0, v.Cap())
			for i := range whole.Len() {
				whole.Index(i).SetInt(-99)
			}
		}
	case reflect.Struct:
		for i := range v.NumField() {
			scribble(v.Field(i))
		}
	}
}
