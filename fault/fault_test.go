package fault

import (
	"errors"
	"math"
	"slices"
	"strconv"
	"strings"
	"testing"

	"waywiser/api"
)

// other is an error of another kind that wraps one.
type other struct{ err error }

func (o other) Error() string { return "other" }
func (o other) Unwrap() error { return o.err }

// wild is an error of another kind all of whose methods panic.
type wild struct{}

func (wild) Error() string { panic("error") }
func (wild) Unwrap() error { panic("unwrap") }
func (wild) Is(error) bool { panic("is") }
func (wild) As(any) bool   { panic("as") }

// list is an error that can't be compared.
type list []int

func (list) Error() string { return "list" }

// alike is an error that says it is a number.
type alike struct{ e api.Errno }

func (alike) Error() string          { return "alike" }
func (a alike) Is(target error) bool { return target == error(a.e) }

// numbers are all errors' numbers, and some that none has.
func numbers() []api.Errno {
	l := []api.Errno{math.MinInt, -1, 15, 99, math.MaxInt}
	for e := api.OK; e <= api.ErrRange; e++ {
		l = append(l, e)
	}
	return l
}

// wrapped answers an error wrapped by each Op, the last one first.
func wrapped(err error, ops ...string) error {
	for i, op := range slices.Backward(ops) {
		err = Wrap(op, i, uint64(i), err)
	}
	return err
}

// ring answers faults of which each goes on to the next one, and the last one to the one at back.
func ring(n, back int) *Fault {
	l := make([]*Fault, n)
	for i := range l {
		l[i] = &Fault{Op: strconv.Itoa(i)}
	}
	for i, f := range l[:n-1] {
		f.Err = l[i+1]
	}
	l[n-1].Err = l[back]
	return l[0]
}

func TestP41Error(t *testing.T) {
	plain := errors.New("plain")
	for _, c := range []struct {
		f    *Fault
		want string
	}{
		{&Fault{"insert", 0, 7, api.ErrDup}, "insert at 0 of 7: errno 4"},
		{&Fault{"", 0, 0, nil}, " at 0 of 0: nothing"},
		{&Fault{"a", 0, 0, nil}, "a at 0 of 0: nothing"},
		{&Fault{"bulk", -1, 1, plain}, "bulk at -1 of 1: plain"},
		{&Fault{"bulk", 10, 20, plain}, "bulk at 10 of 20: plain"},
		{&Fault{"x", math.MaxInt, math.MaxUint64, plain}, "x at 9223372036854775807 of 18446744073709551615: plain"},
		{&Fault{"x", math.MinInt, 1 << 63, plain}, "x at -9223372036854775808 of 9223372036854775808: plain"},
		{&Fault{"two words: ö", 1, 2, errors.New("")}, "two words: ö at 1 of 2: "},
		{&Fault{"x\x00\xff\n", 1, 2, plain}, "x\x00\xff\n at 1 of 2: plain"},
		{&Fault{"x", 1, 2, api.OK}, "x at 1 of 2: errno 0"},
		{&Fault{"x", 1, 2, api.Errno(-9)}, "x at 1 of 2: errno -9"},
		{&Fault{"x", 1, 2, errors.New("nothing at 1 of 2: y")}, "x at 1 of 2: nothing at 1 of 2: y"},
		{&Fault{"a", 1, 2, &Fault{"b", 3, 4, &Fault{"c", -5, 6, api.ErrFull}}}, "a at 1 of 2: b at 3 of 4: c at -5 of 6: errno 6"},
		{&Fault{"a", 1, 2, &Fault{"b", 3, 4, nil}}, "a at 1 of 2: b at 3 of 4: nothing"},
		{&Fault{"a", 1, 2, (*Fault)(nil)}, "a at 1 of 2: "},
		{&Fault{"a", 1, 2, &Fault{"b", 3, 4, (*Fault)(nil)}}, "a at 1 of 2: b at 3 of 4: "},
		{&Fault{"a", 1, 2, other{&Fault{"b", 3, 4, api.ErrFull}}}, "a at 1 of 2: other"},
		{&Fault{"a", 1, 2, errors.Join(&Fault{"b", 3, 4, api.ErrFull}, plain)}, "a at 1 of 2: b at 3 of 4: errno 6\nplain"},
	} {
		if got := c.f.Error(); got != c.want {
			t.Errorf("%q, want %q", got, c.want)
		}
	}
}

func TestP41Unwrap(t *testing.T) {
	inner := &Fault{Op: "inner"}
	for _, err := range []error{api.OK, api.ErrDup, inner, (*Fault)(nil), other{inner}} {
		if got := (&Fault{Op: "a", Err: err}).Unwrap(); got == nil || got != err {
			t.Errorf("%v, want %v", got, err)
		}
	}
	if got := (&Fault{Op: "a"}).Unwrap(); got != nil {
		t.Error(got)
	}
}

func TestP41NilFault(t *testing.T) {
	var f *Fault
	if f.Error() != "" || f.Unwrap() != nil {
		t.Errorf("%q, %v", f.Error(), f.Unwrap())
	}
}

func TestP41Wrap(t *testing.T) {
	for _, c := range []Fault{
		{"insert", 0, 7, api.ErrDup}, {"", 0, 0, api.OK}, {"x", -1, math.MaxUint64, errors.New("plain")},
		{"x", math.MinInt, 1, &Fault{Op: "y"}}, {"x", math.MaxInt, 1, other{api.ErrFull}}, {"x", 2, 1, (*Fault)(nil)},
	} {
		err := Wrap(c.Op, c.At, c.Id, c.Err)
		if f, ok := err.(*Fault); !ok || f == nil || *f != c {
			t.Errorf("%#v, want %#v", err, c)
		}
	}
	for _, op := range []string{"", "insert"} {
		if err := Wrap(op, 3, 4, nil); err != nil {
			t.Errorf("of no error: %#v", err)
		}
	}
}

// Two faults of the same are two: setting one leaves the other one as it is.
func TestP41WrapIsNew(t *testing.T) {
	first, second := Wrap("a", 1, 2, api.ErrDup).(*Fault), Wrap("a", 1, 2, api.ErrDup).(*Fault)
	first.Op = "b"
	if second.Op != "a" {
		t.Error(second)
	}
	Wrap("c", 3, 4, second)
	if *second != (Fault{"a", 1, 2, api.ErrDup}) {
		t.Error("what is wrapped is changed:", second)
	}
}

func TestP42Code(t *testing.T) {
	if Code(nil) != api.OK {
		t.Error("of no error:", Code(nil))
	}
	for _, e := range numbers() {
		for _, err := range []error{e, wrapped(e, "a"), wrapped(e, "a", "b", "c"), &Fault{Err: e}} {
			if got := Code(err); got != e {
				t.Errorf("of %v: %d", err, got)
			}
		}
	}
	number := api.ErrDup
	for _, err := range []error{
		errors.New("errno 4"), &Fault{}, &Fault{Op: "a"}, (*Fault)(nil), &number, (*api.Errno)(nil), list{4},
		other{api.ErrDup}, other{nil}, other{wrapped(api.ErrDup, "a")}, errors.Join(api.ErrDup), alike{api.ErrDup},
	} {
		for _, err := range []error{err, wrapped(err, "a"), wrapped(err, "a", "b", "c")} {
			if got := Code(err); got != api.ErrArg {
				t.Errorf("of %v: %d", err, got)
			}
		}
	}
}

func TestP42Is(t *testing.T) {
	for _, e := range numbers() {
		if Is(nil, e) || Is((*Fault)(nil), e) || Is(&Fault{Op: "a"}, e) || Is(errors.New(e.Error()), e) || Is(wrapped((*Fault)(nil), "a"), e) {
			t.Errorf("%d is found where none is", e)
		}
		for _, one := range numbers() {
			for _, err := range []error{
				one, wrapped(one, "a"), wrapped(one, "a", "b", "c"), other{one}, other{wrapped(one, "a")}, wrapped(other{wrapped(one, "b")}, "a"),
				errors.Join(errors.New("plain"), wrapped(one, "a")), wrapped(errors.Join(list{1}, one), "a"), alike{one}, wrapped(alike{one}, "a", "b"),
			} {
				if got := Is(err, e); got != (one == e) || got != errors.Is(err, e) {
					t.Errorf("is %v %d: %t", err, e, got)
				}
			}
		}
	}
	number := api.ErrDup
	for _, err := range []error{&number, (*api.Errno)(nil), list{4}, other{nil}, errors.New("plain")} {
		if Is(err, number) || Is(wrapped(err, "a", "b"), number) {
			t.Errorf("%v is %d", err, number)
		}
	}
	if err := errors.Join(api.ErrDup, api.ErrFull); !Is(err, api.ErrDup) || !Is(err, api.ErrFull) || Is(err, api.ErrAbsent) {
		t.Error("two numbers in one error")
	}
}

func TestP42Where(t *testing.T) {
	inner := Fault{"inner", -3, math.MaxUint64, api.ErrDup}
	outer := Fault{"outer", 4, 5, &inner}
	bare := Fault{}
	for _, c := range []struct {
		err  error
		want Fault
	}{
		{&inner, inner}, {&outer, outer}, {&bare, bare}, {Wrap("a", 1, 2, &outer), Fault{"a", 1, 2, &outer}}, {Wrap("a", 1, 2, (*Fault)(nil)), Fault{"a", 1, 2, (*Fault)(nil)}},
		{other{&inner}, inner}, {other{other{&outer}}, outer}, {errors.Join(errors.New("plain"), &inner, &outer), inner},
	} {
		if got, ok := Where(c.err); !ok || got != c.want {
			t.Errorf("of %v: %v, %t", c.err, got, ok)
		}
	}
	for _, err := range []error{nil, api.OK, api.ErrDup, errors.New("plain"), list{1}, other{nil}, other{api.ErrDup}, (*Fault)(nil), other{(*Fault)(nil)}} {
		if got, ok := Where(err); ok || got != (Fault{}) {
			t.Errorf("of %v: %v, %t", err, got, ok)
		}
	}
}

// What Where answers stands by itself.
func TestP42WhereIsNew(t *testing.T) {
	err := Wrap("a", 1, 2, api.ErrDup)
	got, _ := Where(err)
	got.Op, got.Err = "b", nil
	if err.Error() != "a at 1 of 2: errno 4" {
		t.Error(err)
	}
}

func TestP42Trace(t *testing.T) {
	for _, c := range []struct {
		err  error
		want []string
	}{
		{nil, nil}, {api.ErrDup, nil}, {errors.New("plain"), nil}, {(*Fault)(nil), nil}, {other{wrapped(api.ErrDup, "a")}, nil}, {errors.Join(&Fault{Op: "a"}), nil},
		{&Fault{}, []string{""}}, {&Fault{Op: "a"}, []string{"a"}}, {wrapped(api.ErrDup, "a"), []string{"a"}}, {wrapped((*Fault)(nil), "a"), []string{"a"}},
		{wrapped(errors.New("plain"), "a", "b"), []string{"a", "b"}}, {wrapped(api.ErrDup, "b", "", "a", "a", "b"), []string{"b", "", "a", "a", "b"}},
		{wrapped(other{wrapped(api.ErrDup, "c")}, "a", "b"), []string{"a", "b"}},
	} {
		if got := Trace(c.err); !slices.Equal(got, c.want) {
			t.Errorf("of %v: %q, want %q", c.err, got, c.want)
		}
	}
}

func TestP42TraceIsNew(t *testing.T) {
	err := wrapped(api.ErrDup, "a", "b")
	clear(Trace(err))
	if got := Trace(err); !slices.Equal(got, []string{"a", "b"}) {
		t.Error(got)
	}
}

func TestP43WrappedOften(t *testing.T) {
	for _, end := range []error{api.OK, api.ErrDup, api.Errno(-7), errors.New("plain"), other{api.ErrFull}, (*Fault)(nil), &Fault{Op: "0"}} {
		err, ops := end, Trace(end)
		for n := range 40 {
			err = Wrap(strconv.Itoa(n), n, uint64(n), err)
			ops = slices.Insert(ops, 0, strconv.Itoa(n))
			if Code(err) != Code(end) {
				t.Errorf("of %v: %d, want %d", err, Code(err), Code(end))
			}
			for _, e := range numbers() {
				if Is(err, e) != Is(end, e) {
					t.Errorf("is %v %d: %t", err, e, Is(err, e))
				}
			}
			if got := Trace(err); !slices.Equal(got, ops) {
				t.Errorf("of %v: %q, want %q", err, got, ops)
			}
			if got, ok := Where(err); !ok || got.Op != ops[0] {
				t.Errorf("of %v: %v", err, got)
			}
		}
	}
}

// As many parts as may be nested in one another.
func TestP43WrappedAsOftenAsMayBe(t *testing.T) {
	const n = 1 << 16
	var err error = api.ErrStale
	for i := range n {
		err = Wrap("x", i, 1, err)
	}
	want := ""
	for i := range 3 {
		want += "x at " + strconv.Itoa(n-1-i) + " of 1: "
	}
	if s := err.Error(); !strings.HasPrefix(s, want) || !strings.HasSuffix(s, " of 1: x at 0 of 1: errno 8") || strings.Count(s, "x") != n {
		t.Error("another text of", len(s), "bytes")
	}
	if Code(err) != api.ErrStale || !Is(err, api.ErrStale) || Is(err, api.ErrDone) || len(Trace(err)) != n {
		t.Error("another error")
	}
}

// Errors that are told in themselves come to no end, but the calls do.
func TestFaultsThatGoRound(t *testing.T) {
	for n := 1; n < 40; n++ {
		for back := range n {
			f := ring(n, back)
			var ops []string
			text := ""
			for i := range n {
				ops = append(ops, strconv.Itoa(i))
				text += strconv.Itoa(i) + " at 0 of 0: "
			}
			if got := f.Error(); got != text+"nothing" {
				t.Errorf("%d back to %d: %q", n, back, got)
			}
			if got := Trace(f); !slices.Equal(got, ops) {
				t.Errorf("%d back to %d: %q", n, back, got)
			}
			if Code(f) != api.ErrArg || Is(f, api.ErrArg) || Is(f, api.OK) {
				t.Errorf("%d back to %d: %d", n, back, Code(f))
			}
			if got, ok := Where(f); !ok || got != *f {
				t.Errorf("%d back to %d: %v, %t", n, back, got, ok)
			}
		}
	}
}

// Panics of errors of other kinds stay inside.
func TestErrorsThatPanic(t *testing.T) {
	for _, bad := range []error{wild{}, (*api.Errno)(nil), (*other)(nil)} {
		for ops := range 3 {
			list := []string{"a", "b"}[:ops]
			err := wrapped(bad, list...)
			if got := Trace(err); !slices.Equal(got, list) {
				t.Errorf("%d times: %q", ops, got)
			}
			if Code(err) != api.ErrArg || Is(err, api.ErrArg) || Is(err, api.OK) {
				t.Errorf("%d times: %d", ops, Code(err))
			}
			if got, ok := Where(err); ok != (ops > 0) || !ok && got != (Fault{}) || ok && got.Op != "a" {
				t.Errorf("%d times: %v, %t", ops, got, ok)
			}
		}
		if got := Wrap("a", 1, 2, bad).Error(); got != "a at 1 of 2: nothing" {
			t.Errorf("%q", got)
		}
	}
}
