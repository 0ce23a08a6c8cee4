package timer_test

import (
	"math"
	"testing"

	"bulla/api"
	"bulla/timer"
)

// lengths are all that a timer that may be can have, told one by one.
func lengths() []int {
	return []int{8, 16, 32, 64, 128, 256, 512, 1024, 2048, 4096}
}

// longer is the length behind another one, told one by one.
func longer() map[int]int {
	return map[int]int{8: 16, 16: 32, 32: 64, 64: 128, 128: 256, 256: 512, 512: 1024, 1024: 2048, 2048: 4096, 4096: 4096}
}

// goodTimers are all timers that may be.
func goodTimers() []api.Timer {
	var l []api.Timer
	for _, length := range lengths() {
		for left := range length + 1 {
			l = append(l, api.Timer{Length: length, Left: left})
		}
	}
	return l
}

// someTimers are of each length those at the edges of what may be left, and between.
func someTimers() []api.Timer {
	var l []api.Timer
	for _, length := range lengths() {
		for _, left := range []int{0, 1, 2, 7, 8, length / 2, length - 1, length} {
			l = append(l, api.Timer{Length: length, Left: left})
		}
		if length > 8 {
			l = append(l, api.Timer{Length: length, Left: 9})
		}
	}
	return l
}

// wrongLengths are such as no timer may have; some would be others, if bits above were cut off, or a sign.
func wrongLengths() []int {
	l := []int{
		0, -1, 1, 2, 3, 4, 5, 6, 7, 9, 10, 12, 15, 17, 24, 31, 33, 40, 48, 72, 96, 100, 1000, 1<<10 + 8, 3072, 4088, 4095, 4097, 4104, 8191, 8192, 8193, 12288,
		-2, -4, -7, -8, -9, -16, -32, -1024, -4095, -4096, -4097, -8192,
		1<<8 + 8, 1<<16 + 8, 1<<16 + 16, 1<<32 + 8, 1<<32 + 4096, 1<<62 + 64, -1<<32 + 8, -1<<62 + 16,
		math.MinInt, math.MinInt + 1, math.MinInt + 8, math.MaxInt, math.MaxInt - 1, math.MaxInt - 7,
	}
	for n := 1 << 13; n > 0; n *= 2 {
		l = append(l, n, -n)
	}
	return l
}

// wrongLefts are such as no timer of this length may have left.
func wrongLefts(length int) []int {
	l := []int{-1, -2, -7, -8, -9, -length, -length - 1, -1 << 32, 1 - 1<<32, math.MinInt, math.MinInt + 1, math.MinInt + length}
	return append(l, length+1, length+2, length+8, 2*length, 2*length+1, 4097, 8192, 1<<16, 1<<16+1, 1<<32, 1<<32+1, 1<<32+length, 1<<62, math.MaxInt-1, math.MaxInt)
}

// wrongTimers are timers that may not be: by their length, by what is left, by both.
func wrongTimers() []api.Timer {
	l := []api.Timer{{}}
	for _, length := range wrongLengths() {
		for _, left := range []int{0, 1, 2, 4, 7, 8, 9, 4095, 4096, 4097, length / 2, length - 1, length, -length, -1, -8, math.MinInt, math.MaxInt} {
			l = append(l, api.Timer{Length: length, Left: left})
		}
	}
	for _, length := range lengths() {
		for _, left := range wrongLefts(length) {
			l = append(l, api.Timer{Length: length, Left: left})
		}
	}
	return l
}

// answers is what all calls say of one timer.
type answers struct {
	check                            api.Errno
	runs                             bool
	start, stop, again, double, calm api.Timer
	tick                             api.Timer
	out                              bool
}

// ask hands a timer to all calls.
func ask(x api.Timer) answers {
	a := answers{
		check: timer.Check(x), runs: timer.Runs(x),
		start: timer.Start(x), stop: timer.Stop(x), again: timer.Again(x), double: timer.Double(x), calm: timer.Calm(x),
	}
	a.tick, a.out = timer.Tick(x)
	return a
}

// given are the timers among the answers.
func (a answers) given() []api.Timer {
	return []api.Timer{a.start, a.stop, a.again, a.double, a.calm, a.tick}
}

// says tells where the calls do not say this of a timer.
func says(t *testing.T, x api.Timer, want answers) {
	t.Helper()
	if a := ask(x); a != want {
		t.Fatalf("of %v:\n%+v, want\n%+v", x, a, want)
	}
}

// asNew is what all calls say of a timer that may not be: of New, but that Check refuses it.
func asNew() answers {
	return answers{
		check: api.ErrArg, runs: false,
		start: api.Timer{Length: 8, Left: 8}, stop: api.Timer{Length: 8, Left: 0}, again: api.Timer{Length: 8, Left: 8},
		double: api.Timer{Length: 16, Left: 16}, calm: api.Timer{Length: 8, Left: 0},
		tick: api.Timer{Length: 8, Left: 0}, out: false,
	}
}

// asGood is what all calls say of a timer that may be, by the chapter's words.
func asGood(x api.Timer) answers {
	next := longer()[x.Length]
	a := answers{
		check: api.OK, runs: true,
		start: x, stop: api.Timer{Length: x.Length}, again: api.Timer{Length: x.Length, Left: x.Length},
		double: api.Timer{Length: next, Left: next}, calm: api.Timer{Length: 8, Left: 8},
		tick: api.Timer{Length: x.Length, Left: x.Left - 1},
	}
	if x.Left < 8 {
		a.calm.Left = x.Left
	}
	switch x.Left {
	case 0:
		a.runs, a.start, a.tick = false, a.again, x
	case 1:
		a.out = true
	}
	return a
}
