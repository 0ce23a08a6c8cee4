package quorum_test

import (
	"testing"

	"bulla/api"
	"bulla/quorum"
)

// P12.4: two quorums have Small(f) or more in common, so that one of these is not faulty, whichever are.
func TestQuorumsMeet(t *testing.T) {
	for _, c := range clusters() {
		quorums := setsOf(c.brokers, c.big, c.brokers)
		faulty := setsOf(c.brokers, 0, c.f)
		tried, just := map[api.Set]int{}, 0
		for _, a := range quorums {
			if quorum.Many(a) < quorum.Big(c.f) || quorum.Both(a, quorum.All(c.f)) != a {
				t.Fatalf("f %d: %b is no quorum", c.f, a)
			}
			for _, b := range quorums {
				common := quorum.Both(a, b)
				if tried[common]++; tried[common] > 1 {
					continue
				}
				n := quorum.Many(common)
				if n < quorum.Small(c.f) {
					t.Fatalf("f %d: %b and %b have %d in common", c.f, a, b, n)
				}
				if n == quorum.Small(c.f) {
					just++
				}
				for _, x := range faulty {
					if quorum.Many(without(common, x)) == 0 {
						t.Fatalf("f %d: %b and %b have none in common that is not faulty, if %b are", c.f, a, b, x)
					}
				}
			}
		}
		if just == 0 {
			t.Errorf("f %d: no two quorums have just Small in common", c.f)
		}
	}
}

// P12.4: one fewer than Big is no quorum, two such have Small in common no more.
func TestFewerDoNotMeet(t *testing.T) {
	for _, c := range clusters() {
		var a, b api.Set
		for i := range quorum.Big(c.f) - 1 {
			a = quorum.With(a, i)
			b = quorum.With(b, quorum.Brokers(c.f)-1-i)
		}
		if n := quorum.Many(quorum.Both(a, b)); n >= quorum.Small(c.f) {
			t.Errorf("f %d: %b and %b have %d in common", c.f, a, b, n)
		}
	}
}

// P12.5: of Small(f) or more one is not faulty, whichever f are; of fewer there need not be one.
func TestOneIsNotFaulty(t *testing.T) {
	for _, c := range clusters() {
		faulty := setsOf(c.brokers, 0, c.f)
		for _, s := range setsOf(c.brokers, 0, c.brokers) {
			whole := 0
			for _, x := range faulty {
				if quorum.Both(s, x) == s {
					whole++
				}
			}
			if enough := quorum.Many(s) >= quorum.Small(c.f); enough != (whole == 0) {
				t.Fatalf("f %d: %b may be faulty all of them in %d ways", c.f, s, whole)
			}
		}
	}
}

// P12.5: a quorum is there without any f of them.
func TestQuorumIsThere(t *testing.T) {
	for _, c := range clusters() {
		for _, x := range setsOf(c.brokers, 0, c.f) {
			left := without(quorum.All(c.f), x)
			if n := quorum.Many(left); n < quorum.Big(c.f) || quorum.Both(left, x) != 0 || n+quorum.Many(x) != quorum.Brokers(c.f) {
				t.Errorf("f %d: without %b there are %b", c.f, x, left)
			}
		}
	}
}
