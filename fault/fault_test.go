package fault_test

import (
	"errors"
	"fmt"
	"math"
	"slices"
	"strings"
	"testing"

	"scoria/api"
	"scoria/fault"
)

// several wraps a list as it is, with what is no error in it, which errors.Join would leave away.
type several []error

func (several) Error() string     { return "several" }
func (s several) Unwrap() []error { return s }

// says is an error that answers errors.Is and errors.As itself, and wraps nothing.
type says struct{ e api.Errno }

func (says) Error() string          { return "says" }
func (s says) Is(target error) bool { return target == error(s.e) }
func (s says) As(target any) (ok bool) {
	e, ok := target.(*api.Errno)
	if ok {
		*e = s.e
	}
	return ok
}

// breaks is an error whose methods panic when it is nil.
type breaks struct{ err error }

func (b *breaks) Error() string { return b.err.Error() }
func (b *breaks) Unwrap() error { return b.err }

var (
	plain    = errors.New("plain")
	nilFault *fault.Fault
)

// numbers are all that is asked for: each Errno of api, and some that are none of its constants.
var numbers = []api.Errno{api.OK, api.ErrArg, api.ErrLong, api.ErrForm, api.ErrNone, api.ErrShort, api.ErrSum, api.ErrThere, api.ErrOther, api.ErrDown, api.ErrOrder, api.ErrBad, api.ErrBlank, api.ErrSpace, api.ErrWorn, api.ErrMany, api.ErrFull, api.ErrRange, 1000, -1}

// look is what is to be told of an error.
type look struct {
	name  string
	err   error
	code  api.Errno
	has   []api.Errno
	trail []api.Step
}

func steps(l ...any) []api.Step {
	var s []api.Step
	for i := 0; i < len(l); i += 2 {
		s = append(s, api.Step{Op: l[i].(string), At: l[i+1].(int)})
	}
	return s
}

// looks are errors of all makes, with what is inside of them told by hand.
func looks() []look {
	read7 := fault.Wrap("read", 7, api.ErrNone)
	bare := &fault.Fault{Step: api.Step{Op: "bare", At: 5}}
	return []look{
		{"none", nil, api.OK, []api.Errno{api.OK}, nil},
		{"a number", api.ErrNone, api.ErrNone, []api.Errno{api.ErrNone}, nil},
		{"OK as an error", api.OK, api.OK, []api.Errno{api.OK}, nil},
		{"a number of no constant", api.Errno(1000), 1000, []api.Errno{1000}, nil},
		{"a number below 0", api.Errno(-1), -1, []api.Errno{-1}, nil},
		{"ErrOther itself", api.ErrOther, api.ErrOther, []api.Errno{api.ErrOther}, nil},
		{"of no number", plain, api.ErrOther, nil, nil},
		{"wrapped once", read7, api.ErrNone, []api.Errno{api.ErrNone}, steps("read", 7)},
		{"OK wrapped", fault.Wrap("x", 0, api.OK), api.OK, []api.Errno{api.OK}, steps("x", 0)},
		{"wrapped twice", fault.Wrap("open", 1, read7), api.ErrNone, []api.Errno{api.ErrNone}, steps("open", 1, "read", 7)},
		{"of no number, wrapped", fault.Wrap("read", 7, plain), api.ErrOther, nil, steps("read", 7)},
		{"a nil Fault", nilFault, api.ErrOther, nil, nil},
		{"a nil Fault, wrapped", fault.Wrap("read", 7, nilFault), api.ErrOther, nil, steps("read", 7)},
		{"a Fault that wraps nothing", bare, api.ErrOther, nil, steps("bare", 5)},
		{"that one, wrapped", fault.Wrap("open", 1, bare), api.ErrOther, nil, steps("open", 1, "bare", 5)},
		{"another make around a number", fmt.Errorf("so: %w", api.ErrSum), api.ErrSum, []api.Errno{api.ErrSum}, nil},
		{"another make around a Fault", fmt.Errorf("so: %w", read7), api.ErrNone, []api.Errno{api.ErrNone}, steps("read", 7)},
		{"another make between Faults", fault.Wrap("open", 1, fmt.Errorf("so: %w", read7)), api.ErrNone, []api.Errno{api.ErrNone}, steps("open", 1, "read", 7)},
		{"another make around nothing", fmt.Errorf("so: %w", nil), api.ErrOther, nil, nil},
		{"that tells itself what it is", says{api.ErrBad}, api.ErrBad, []api.Errno{api.ErrBad}, nil},
		{"joined: the first one counts", errors.Join(api.ErrBad, api.ErrNone), api.ErrBad, []api.Errno{api.ErrBad, api.ErrNone}, nil},
		{"joined: the first one has none", errors.Join(plain, read7, api.ErrBad), api.ErrNone, []api.Errno{api.ErrNone, api.ErrBad}, steps("read", 7)},
		{"joined: none has one", errors.Join(plain, bare), api.ErrOther, nil, steps("bare", 5)},
		{"joined: only the first one's trail", errors.Join(fault.Wrap("a", 1, plain), fault.Wrap("b", 2, api.ErrSum)), api.ErrSum, []api.Errno{api.ErrSum}, steps("a", 1)},
		{"joined, wrapped", fault.Wrap("open", 1, errors.Join(plain, fault.Wrap("a", 1, api.ErrDown), read7)), api.ErrDown, []api.Errno{api.ErrDown, api.ErrNone}, steps("open", 1, "a", 1)},
		{"joined in joined", errors.Join(errors.Join(plain, errors.Join(plain, read7)), api.ErrBad), api.ErrNone, []api.Errno{api.ErrNone, api.ErrBad}, steps("read", 7)},
		{"two wrapped by another make", fmt.Errorf("%w, %w", read7, api.ErrBad), api.ErrNone, []api.Errno{api.ErrNone, api.ErrBad}, steps("read", 7)},
		{"a list with what is no error", several{nil, plain, nil, read7, nil}, api.ErrNone, []api.Errno{api.ErrNone}, steps("read", 7)},
		{"a list of what is no error", several{nil, nil}, api.ErrOther, nil, nil},
		{"a list of none", several(nil), api.ErrOther, nil, nil},
		{"a nil Fault ahead in a list", several{nilFault, api.ErrBad}, api.ErrBad, []api.Errno{api.ErrBad}, nil},
		{"a place below 0", fault.Wrap("at", -3, api.ErrArg), api.ErrArg, []api.Errno{api.ErrArg}, steps("at", -3)},
	}
}

// 3.1: what is no error is not wrapped; it is nil itself, not a nil Fault.
func TestWrapOfNoErrorIsNil(t *testing.T) {
	for _, at := range []int{math.MinInt, -1, 0, 7, math.MaxInt} {
		if err := fault.Wrap("read", at, nil); err != nil {
			t.Errorf("Wrap(read, %d, nil): %#v", at, err)
		}
	}
}

// 3.1: a fault has the step and the error that it was made of, and wraps that one.
func TestWrapKeepsStepAndError(t *testing.T) {
	for _, x := range looks() {
		if x.err == nil {
			continue
		}
		err := fault.Wrap("do", -9, x.err)
		f, ok := err.(*fault.Fault)
		if !ok || f.Step != (api.Step{Op: "do", At: -9}) {
			t.Errorf("%s: Wrap: %#v", x.name, err)
			continue
		}
		// several can't be compared: a list is told by what is inside of it.
		if _, list := x.err.(several); !list && (f.Err != x.err || errors.Unwrap(err) != x.err || f.Unwrap() != x.err) {
			t.Errorf("%s: Wrap wraps %#v", x.name, f.Err)
		}
	}
}

// 3.1: an error's text has the steps of its trail, and its code.
func TestErrorTellsTrailAndCode(t *testing.T) {
	for _, x := range []struct {
		err  error
		want string
	}{
		{fault.Wrap("read", 7, api.ErrNone), "read 7: 4"},
		{fault.Wrap("open", 1, fault.Wrap("read", 7, api.ErrNone)), "open 1: read 7: 4"},
		{fault.Wrap("read", -7, api.ErrRange), "read -7: 82"},
		{fault.Wrap("read", 0, api.OK), "read 0: 0"},
		{fault.Wrap("", 10, api.ErrOrder), " 10: 40"},
		{fault.Wrap("a b: ", math.MaxInt, plain), "a b:  9223372036854775807: 8"},
		{fault.Wrap("x", math.MinInt, api.Errno(1234567)), "x -9223372036854775808: 1234567"},
		{fault.Wrap("x", 1, api.Errno(-12)), "x 1: -12"},
		{fault.Wrap("x", 1, fmt.Errorf("so: %w", fault.Wrap("y", 2, api.ErrBad))), "x 1: y 2: 41"},
		{fault.Wrap("x", 1, errors.Join(fault.Wrap("y", 2, plain), fault.Wrap("z", 3, api.ErrBad))), "x 1: y 2: 41"},
		{fault.Wrap("x", 1, nilFault), "x 1: 8"},
		{&fault.Fault{Step: api.Step{Op: "x", At: 1}}, "x 1: 8"},
		{&fault.Fault{}, " 0: 8"},
		{fault.Wrap("y", 2, &fault.Fault{Step: api.Step{Op: "x", At: 1}}), "y 2: x 1: 8"},
		{nilFault, ""},
	} {
		if s := x.err.Error(); s != x.want {
			t.Errorf("Error: %q; want %q", s, x.want)
		}
	}
}

// 3.1: a nil Fault and one that wraps nothing have nothing inside.
func TestFaultsThatWrapNothing(t *testing.T) {
	if err := nilFault.Unwrap(); err != nil {
		t.Errorf("Unwrap of a nil Fault: %#v", err)
	}
	f := &fault.Fault{Step: api.Step{Op: "x", At: 1}}
	if err := f.Unwrap(); err != nil {
		t.Errorf("Unwrap of a Fault that wraps nothing: %#v", err)
	}
	if c := fault.Code(f); c != api.ErrOther {
		t.Errorf("Code of a Fault that wraps nothing: %d", c)
	}
	for _, e := range numbers {
		if fault.Has(f, e) || fault.Has(nilFault, e) {
			t.Errorf("Has of Faults that wrap nothing: %d", e)
		}
	}
}

// 3.2: the first number inside is the code; every number inside is had, and no other one.
func TestCodeAndHas(t *testing.T) {
	for _, x := range looks() {
		if c := fault.Code(x.err); c != x.code {
			t.Errorf("%s: Code: %d; want %d", x.name, c, x.code)
		}
		for _, e := range numbers {
			if h := fault.Has(x.err, e); h != slices.Contains(x.has, e) {
				t.Errorf("%s: Has %d: %t", x.name, e, h)
			}
		}
	}
}

// 3.3: a trail has the steps from the outermost on, of several only those of the one that is found first.
func TestTrail(t *testing.T) {
	for _, x := range looks() {
		if l := fault.Trail(x.err); !slices.Equal(l, x.trail) {
			t.Errorf("%s: Trail: %v; want %v", x.name, l, x.trail)
		}
	}
}

// 3.3: a trail is told anew each time: to change one changes no other one, nor the error.
func TestTrailsShareNothing(t *testing.T) {
	err := fault.Wrap("a", 1, fault.Wrap("b", 2, api.ErrBad))
	l := fault.Trail(err)
	l[0], l[1] = api.Step{}, api.Step{}
	if l := fault.Trail(err); !slices.Equal(l, steps("a", 1, "b", 2)) || err.Error() != "a 1: b 2: 41" {
		t.Errorf("Trail: %v, of %q", l, err)
	}
}

// 3.3: without an error, nothing is joined.
func TestJoinOfNoErrorIsNil(t *testing.T) {
	for _, l := range [][]error{nil, {}, {nil}, {nil, nil, nil}} {
		if err := fault.Join(l); err != nil {
			t.Errorf("Join(%v): %#v", l, err)
		}
	}
}

// 3.3: what is joined has inside, in order, what each one has; what is no error is left away.
func TestJoin(t *testing.T) {
	read7 := fault.Wrap("read", 7, api.ErrNone)
	for _, x := range []struct {
		l, parts []error
		code     api.Errno
		text     string
	}{
		{[]error{api.ErrBad}, []error{api.ErrBad}, api.ErrBad, "41"},
		{[]error{api.ErrBad, api.ErrSum}, []error{api.ErrBad, api.ErrSum}, api.ErrBad, "41\n6"},
		{[]error{nil, plain, nil, read7, api.ErrBad, nil}, []error{plain, read7, api.ErrBad}, api.ErrNone, "plain\nread 7: 4\n41"},
		{[]error{plain, plain}, []error{plain, plain}, api.ErrOther, "plain\nplain"},
		{[]error{nil, nilFault}, []error{nilFault}, api.ErrOther, ""},
	} {
		err := fault.Join(x.l)
		list, ok := err.(interface{ Unwrap() []error })
		if !ok || !slices.Equal(list.Unwrap(), x.parts) {
			t.Errorf("Join(%v): %#v", x.l, err)
			continue
		}
		if fault.Code(err) != x.code || err.Error() != x.text || err.Error() != errors.Join(x.l...).Error() {
			t.Errorf("Join(%v): %q, code %d", x.l, err, fault.Code(err))
		}
	}
}

// 3.3: a list that was joined is neither changed nor kept.
func TestJoinKeepsNoList(t *testing.T) {
	l := []error{nil, api.ErrBad, api.ErrSum}
	err := fault.Join(l)
	if l[0] != nil || l[1] != error(api.ErrBad) || l[2] != error(api.ErrSum) {
		t.Errorf("Join changed its list: %v", l)
	}
	l[1], l[2] = api.ErrNone, nil
	if fault.Code(err) != api.ErrBad || !fault.Has(err, api.ErrSum) || fault.Has(err, api.ErrNone) {
		t.Errorf("Join kept its list: %v", err)
	}
}

// 3.4: wrapping puts a step in front of the trail, and changes neither the code nor what is inside.
func TestWrappingChangesNothingInside(t *testing.T) {
	for _, x := range looks() {
		if x.err == nil {
			continue
		}
		err := fault.Wrap("do", -9, x.err)
		if c := fault.Code(err); c != fault.Code(x.err) {
			t.Errorf("%s: Code: %d", x.name, c)
		}
		for _, e := range numbers {
			if h := fault.Has(err, e); h != fault.Has(x.err, e) {
				t.Errorf("%s: Has %d: %t", x.name, e, h)
			}
		}
		if l := fault.Trail(err); !slices.Equal(l, append(steps("do", -9), fault.Trail(x.err)...)) {
			t.Errorf("%s: Trail: %v", x.name, l)
		}
	}
}

// 3.4: a number that was wrapped many times is still told.
func TestWrappedManyTimes(t *testing.T) {
	const times = 1<<16 - 1
	err := error(api.ErrFull)
	for i := range times {
		err = fault.Wrap("w", i, err)
	}
	if fault.Code(err) != api.ErrFull || !fault.Has(err, api.ErrFull) || fault.Has(err, api.ErrMany) {
		t.Errorf("Code: %d", fault.Code(err))
	}
	l := fault.Trail(err)
	if len(l) != times {
		t.Fatalf("Trail: %d steps", len(l))
	}
	for i, s := range l {
		if s != (api.Step{Op: "w", At: times - 1 - i}) {
			t.Fatalf("Trail: step %d: %v", i, s)
		}
	}
	if s := err.Error(); !strings.HasPrefix(s, "w 65534: w 65533: ") || !strings.HasSuffix(s, ": w 1: w 0: 71") {
		t.Errorf("Error: %.40q, %d bytes", s, len(s))
	}
}

// R1: an error of another make whose methods panic is an error of no number.
func TestErrorsThatPanic(t *testing.T) {
	var b *breaks
	for _, x := range []struct {
		err   error
		trail []api.Step
		text  string
	}{
		{b, nil, ""},
		{fault.Wrap("x", 1, b), steps("x", 1), "x 1: 8"},
		{fault.Wrap("x", 1, errors.Join(plain, b)), steps("x", 1), "x 1: 8"},
	} {
		if c := fault.Code(x.err); c != api.ErrOther {
			t.Errorf("Code: %d", c)
		}
		for _, e := range numbers {
			if fault.Has(x.err, e) {
				t.Errorf("Has %d", e)
			}
		}
		if l := fault.Trail(x.err); !slices.Equal(l, x.trail) {
			t.Errorf("Trail: %v", l)
		}
		if f, ok := x.err.(*fault.Fault); ok && f.Error() != x.text {
			t.Errorf("Error: %q; want %q", f.Error(), x.text)
		}
	}
}
