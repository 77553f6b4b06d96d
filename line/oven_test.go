package line_test

import (
	"math"
	"math/rand/v2"
	"testing"

	"quicksilver/api"
	"quicksilver/line"
)

// ovenO is the oven O of the chapter's examples.
func ovenO() api.LnOven {
	return api.LnOven{Low: 20, High: 30, Warm: span(2, 4), Cool: span(1, 3)}
}

// P1.7: the examples, and the ends of what Low and High say.
func TestOven(t *testing.T) {
	for i, c := range []struct {
		temp    api.Span
		heats   bool
		minutes int
		want    api.Span
	}{
		{span(25, 25), false, 3, span(17, 25)},
		{span(25, 25), false, 200, span(17, 34)},
		{span(25, 25), false, 0, span(25, 25)},
		{span(-500, 1000), false, 0, span(-500, 1000)},
		{span(25, 25), false, 1, span(22, 25)},
		{span(25, 25), true, 1, span(25, 29)},
		{span(19, 19), false, 1, span(19, 23)}, // below Low it heats
		{span(20, 20), false, 1, span(17, 20)}, // at Low it goes on
		{span(20, 20), true, 1, span(20, 24)},
		{span(30, 30), true, 1, span(30, 34)}, // at High it goes on
		{span(30, 30), false, 1, span(27, 30)},
		{span(31, 31), true, 1, span(28, 31)}, // above High it does not heat
		{span(19, 20), false, 1, span(17, 23)},
	} {
		if s, e := line.Oven(ovenO(), c.temp, c.heats, c.minutes); s != c.want || e != api.OK {
			t.Errorf("%d: Oven = %v, %d", i, s, e)
		}
	}
	// It can leave the range of temperatures, on both sides.
	wild := api.LnOven{Low: 1000, High: 1000, Warm: span(0, 100), Cool: span(0, 100)}
	if s, e := line.Oven(wild, span(999, 999), false, 5); s != span(900, 1100) || e != api.OK {
		t.Errorf("Oven = %v, %d", s, e)
	}
	wild.Low, wild.High = -500, -500
	if s, e := line.Oven(wild, span(-500, -500), false, 5); s != span(-600, -400) || e != api.OK {
		t.Errorf("Oven = %v, %d", s, e)
	}
}

// P1.7: Keeps, with the examples.
func TestKeeps(t *testing.T) {
	one := api.LnOven{Low: -2, High: 0, Warm: span(1, 1), Cool: span(1, 1)}
	two := one
	two.Cool = span(2, 2)
	never := lineA()
	never.Delay, never.Slope = 325, 0
	always := lineA()
	always.Slope = 0
	hot := api.LnOven{Low: 1000, High: 1000, Warm: span(1, 1), Cool: span(1, 1)}
	for i, c := range []struct {
		l       api.LnLine
		o       api.LnOven
		temp    api.Span
		minutes int
		want    int
	}{
		{lineA(), one, span(0, 0), 200, -1},
		{lineA(), two, span(0, 0), 200, 2},
		{lineA(), two, span(0, 0), 2, 2},
		{lineA(), two, span(0, 0), 1, -1},
		{lineA(), one, span(3, 4), 200, 0},
		{lineA(), one, span(3, 3), 0, -1},
		{never, one, span(0, 0), 0, 0},       // safe at no temperature
		{always, hot, span(999, 999), 1, -1}, // at 1000, the last temperature that there is
		{always, hot, span(999, 1000), 0, -1},
		{always, hot, span(999, 999), 200, 2}, // at 1001, where no line is safe
	} {
		if n, e := line.Keeps(c.l, c.o, c.temp, false, c.minutes); n != c.want || e != api.OK {
			t.Errorf("%d: Keeps = %d, %d", i, n, e)
		}
	}
}

// P1.7: the errors of both, in their order.
func TestOvenErrors(t *testing.T) {
	bad := func(change func(o *api.LnOven)) api.LnOven {
		o := ovenO()
		change(&o)
		return o
	}
	for i, c := range []struct {
		o       api.LnOven
		temp    api.Span
		minutes int
		e       api.Errno
	}{
		{bad(func(o *api.LnOven) { o.Low = -501 }), span(2, 1), 0, api.ErrRange},
		{bad(func(o *api.LnOven) { o.High = 1001 }), span(2, 1), 0, api.ErrRange},
		{bad(func(o *api.LnOven) { o.High = -501 }), span(2, 1), 0, api.ErrRange},
		{bad(func(o *api.LnOven) { o.Low = 1001 }), span(2, 1), 0, api.ErrRange},
		{bad(func(o *api.LnOven) { o.Warm = span(-1, 4) }), span(2, 1), 0, api.ErrRange},
		{bad(func(o *api.LnOven) { o.Warm = span(0, 101) }), span(2, 1), 0, api.ErrRange},
		{bad(func(o *api.LnOven) { o.Cool = span(101, 0) }), span(2, 1), 0, api.ErrRange},
		{bad(func(o *api.LnOven) { o.Cool = span(0, -1) }), span(2, 1), 0, api.ErrRange},
		{bad(func(o *api.LnOven) { o.Low, o.Cool.Hi = 31, 101 }), span(0, 0), 0, api.ErrRange},
		{bad(func(o *api.LnOven) { o.Low = 31 }), span(-501, 0), 0, api.ErrArg},
		{bad(func(o *api.LnOven) { o.Warm = span(5, 4) }), span(-501, 0), 0, api.ErrArg},
		{bad(func(o *api.LnOven) { o.Cool = span(5, 4) }), span(-501, 0), 0, api.ErrArg},
		{ovenO(), span(-501, -502), 0, api.ErrRange},
		{ovenO(), span(0, 1001), 0, api.ErrRange},
		{ovenO(), span(2, 1), 201, api.ErrArg},
		{ovenO(), span(0, 0), 201, api.ErrRange},
		{ovenO(), span(0, 0), -1, api.ErrRange},
		{ovenO(), span(0, 0), math.MaxInt, api.ErrRange},
	} {
		if s, e := line.Oven(c.o, c.temp, false, c.minutes); s != span(0, 0) || e != c.e {
			t.Errorf("%d: Oven = %v, %d", i, s, e)
		}
		if n, e := line.Keeps(lineA(), c.o, c.temp, false, c.minutes); n != 0 || e != c.e {
			t.Errorf("%d: Keeps = %d, %d", i, n, e)
		}
	}
	for i, o := range []api.LnOven{
		{Low: -500, High: -500, Warm: span(0, 0), Cool: span(100, 100)},
		{Low: 1000, High: 1000, Warm: span(100, 100), Cool: span(0, 0)},
	} {
		if _, e := line.Oven(o, span(-500, 1000), true, 200); e != api.OK {
			t.Errorf("%d: Oven: %d", i, e)
		}
	}
}

// someOven returns an oven near to 0 degrees.
func someOven(r *rand.Rand) api.LnOven {
	o := api.LnOven{Low: between(r, -10, 5), Warm: span(r.IntN(4), 4+r.IntN(3)), Cool: span(r.IntN(4), 4+r.IntN(3))}
	o.High = o.Low + r.IntN(8)
	return o
}

// heatsNow says whether an oven heats in a minute, by the definition.
func heatsNow(o api.LnOven, temp int, before bool) bool {
	if temp < o.Low {
		return true
	}
	return temp <= o.High && before
}

// everyTemp returns at which temperatures an oven can be after just so many minutes, and follows all of it minute by minute.
func everyTemp(o api.LnOven, temp api.Span, heats bool, minutes int) map[int]bool {
	type place struct {
		temp  int
		heats bool
	}
	now := map[place]bool{}
	for t := temp.Lo; t <= temp.Hi; t++ {
		now[place{t, heats}] = true
	}
	for range minutes {
		after := map[place]bool{}
		for p := range now {
			heats := heatsNow(o, p.temp, p.heats)
			by, sign := o.Cool, -1
			if heats {
				by, sign = o.Warm, 1
			}
			for n := by.Lo; n <= by.Hi; n++ {
				after[place{p.temp + sign*n, heats}] = true
			}
		}
		now = after
	}
	temps := map[int]bool{}
	for p := range now {
		temps[p.temp] = true
	}
	return temps
}

// P1.7: both functions say just what can be.
func TestOvenByDefinition(t *testing.T) {
	r := rand.New(rand.NewPCG(21, 22))
	for range 150 {
		l, o, heats, minutes := someLine(r), someOven(r), r.IntN(2) == 0, r.IntN(15)
		lo := between(r, -20, 20)
		temp := span(lo, lo+r.IntN(4))
		want, keeps := temp, -1
		for after := range minutes + 1 {
			for n := range everyTemp(o, temp, heats, after) {
				want = span(min(want.Lo, n), max(want.Hi, n))
				if shift, lost := shiftByDefinition(l, n); (shift != 0 || lost) && keeps < 0 {
					keeps = after
				}
			}
		}
		if s, e := line.Oven(o, temp, heats, minutes); s != want || e != api.OK {
			t.Fatalf("Oven of %v, %v, %v, %d = %v, %d; not %v", o, temp, heats, minutes, s, e, want)
		}
		if n, e := line.Keeps(l, o, temp, heats, minutes); n != keeps || e != api.OK {
			t.Fatalf("Keeps of %v, %v, %v, %v, %d = %d, %d; not %d", l, o, temp, heats, minutes, n, e, keeps)
		}
	}
}

// P1.13: with any numbers, minute by minute, the temperature stays in the span of Oven; a line that Keeps does not doubt is safe all the time.
func TestOvenInEveryTruth(t *testing.T) {
	r := rand.New(rand.NewPCG(23, 24))
	for range 1000 {
		l, o, heats, minutes := someLine(r), someOven(r), r.IntN(2) == 0, r.IntN(201)
		lo := between(r, -20, 20)
		temp := span(lo, lo+r.IntN(4))
		s, _ := line.Oven(o, temp, heats, minutes)
		keeps, _ := line.Keeps(l, o, temp, heats, minutes)
		now := between(r, temp.Lo, temp.Hi)
		for after := range minutes + 1 {
			if now < s.Lo || now > s.Hi {
				t.Fatalf("%v is at %d after %d minutes, out of %v", o, now, after, s)
			}
			if shift, lost := shiftByDefinition(l, now); (shift != 0 || lost) && (keeps < 0 || after < keeps) {
				t.Fatalf("%v in %v is not safe after %d minutes; Keeps = %d", l, o, after, keeps)
			}
			heats = heatsNow(o, now, heats)
			if heats {
				now += between(r, o.Warm.Lo, o.Warm.Hi)
			} else {
				now -= between(r, o.Cool.Lo, o.Cool.Hi)
			}
		}
	}
}
