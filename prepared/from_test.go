package prepared_test

import (
	"math/rand"
	"slices"
	"testing"

	"bulla/api"
	"bulla/prepared"
)

// from holds From against whether it has to take a list; it answers what From has made.
func from(t *testing.T, want bool, l ...api.Prepared) both {
	t.Helper()
	first := copyAll(l)
	h, e := prepared.From(l...)
	if !sameAll(l, first) {
		t.Fatalf("From(%+v) writes to what it is handed", first)
	}
	if !want && (h != nil || e != 1) || want && (h == nil || e != 0) {
		t.Fatalf("From(%+v) = %v, %d", l, h, e)
	}
	b := both{t, h, &model{first}}
	if want {
		b.same()
	}
	return b
}

// P15.3: of none, as New.
func TestFromNone(t *testing.T) {
	for _, b := range []both{from(t, true), from(t, true, []api.Prepared{}...)} {
		b.put(some(0, 1, 1))
		b.same()
	}
}

// P15.3: of numbers that may be, whatever else they are.
func TestFrom(t *testing.T) {
	var l []api.Prepared
	for i, seq := range someSeqs() {
		l = append(l, some(append(wrongViews(), someViews()...)[i], seq, 7*i+3))
		from(t, true, l...)
		from(t, true, l[i])
		from(t, true, l[i/2:]...)
	}
	b := from(t, true, l...)
	b.put(some(9, 3, 99))
	b.put(some(9, 5, 98))
	b.slide(4)
	b.put(some(0, 1, 97))
	b.same()
	from(t, true, b.m.all()...)
	from(t, true, slices.Collect(b.h.All())...)
}

// P15.3: of numbers that may not be, alone and with others.
func TestFromSeq(t *testing.T) {
	for _, seq := range wrongSeqs() {
		bad := some(1, seq, 5)
		from(t, false, bad)
		from(t, false, bad, some(1, 7, 5))
		from(t, false, some(1, 7, 5), bad)
		from(t, false, some(1, 7, 5), some(1, most, 5), bad)
		from(t, false, some(1, 7, 5), bad, some(1, 9, 5))
	}
	from(t, false, api.Prepared{})
	from(t, true, api.Prepared{Seq: 1})
}

// P15.3: of lists that do not rise, though a later view stands behind.
func TestFromOrder(t *testing.T) {
	l := []api.Prepared{some(3, 1, 4), some(1, 2, 5), some(9, 5, 6), some(4, 6, 7)}
	for n, x := range arrangements(l) {
		from(t, n == 0, x...)
	}
	for i := range l {
		for j := range l {
			from(t, i < j, l[i], l[j])
			from(t, false, slices.Insert(slices.Clone(l), i, l[j])...)
		}
		later, lesser := l[i], l[i]
		later.View++
		lesser.View--
		from(t, false, l[i], later)
		from(t, false, l[i], lesser)
		from(t, false, slices.Insert(slices.Clone(l), i+1, later)...)
		from(t, false, slices.Insert(slices.Clone(l), i+1, lesser)...)
	}
}

// P15.6: From of All is the same, behind whatever calls, and goes on as the one that it was made of.
func TestFromOfAll(t *testing.T) {
	for seed := range int64(60) {
		dice := rand.New(rand.NewSource(seed))
		b := beginBoth(t)
		for range 12 {
			sides := []both{from(t, true, slices.Collect(b.h.All())...), b.clone(), b}
			for range 20 {
				x := anyStep(dice)
				first := sides[0].tell(x)
				for _, s := range sides[1:] {
					if how := s.tell(x); how != first {
						t.Fatalf("%+v: %s, and of other ones that were the same: %s", x, how, first)
					}
				}
			}
			for _, s := range sides {
				s.same()
			}
			b = sides[dice.Intn(3)]
		}
	}
}
