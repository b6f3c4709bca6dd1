package fail

import (
	"errors"
	"fmt"
	"testing"

	"lysimeter/api"
)

func check[T comparable](t *testing.T, name string, got, want T) {
	t.Helper()
	if got != want {
		t.Errorf("%s: %#v, want %#v", name, got, want)
	}
}

func TestIn(t *testing.T) {
	done := 0
	check(t, "nothing fails", In(func() { At(api.OK); done++ }), api.OK)
	check(t, "nothing fails", done, 1)
	check(t, "a step fails", In(func() { At(api.OK); At(api.ErrIO); At(api.ErrOff); done++ }), api.ErrIO)
	check(t, "what is behind it", done, 1)
	check(t, "within other work", In(func() { check(t, "inner", In(func() { At(api.ErrFull) }), api.ErrFull); done++ }), api.OK)
	check(t, "within other work", done, 2)
	check(t, "wrapped", In(func() { panic(fmt.Errorf("wrapped: %w", failure{api.ErrOff})) }), api.ErrOff)
	check(t, "its text", failure{api.ErrIO}.Error(), "error 10 of the disk")
}

// TestThrown: nothing but the disk's error is taken for one.
func TestThrown(t *testing.T) {
	for _, thrown := range []any{errors.New("another"), "a text", api.ErrIO} {
		func() {
			defer func() { check(t, "goes on", recover(), thrown) }()
			In(func() { panic(thrown) })
		}()
	}
}
