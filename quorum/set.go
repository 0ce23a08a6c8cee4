package quorum

import "bulla/api"

// known has the bits that stand for brokers: whatever else a set was handed in with counts for nothing.
const known api.Set = 1<<api.MaxBrokers - 1

// bit is the set of one broker; the empty one of a broker that is none.
func bit(broker int) api.Set {
	if broker < 0 || broker >= api.MaxBrokers {
		return 0
	}
	return 1 << broker
}

// Of is the set of some brokers, All that of all.
func Of(l ...int) api.Set {
	var s api.Set
	for _, broker := range l {
		s |= bit(broker)
	}
	return s
}

func All(f int) api.Set {
	var s api.Set
	for broker := range Brokers(f) {
		s |= bit(broker)
	}
	return s
}

// With is a set and a broker, Has tells whether it is in it, Many is how many are, List are they.
func With(s api.Set, broker int) api.Set { return s&known | bit(broker) }

func Has(s api.Set, broker int) bool { return s&bit(broker) != 0 }

func Many(s api.Set) int {
	n := 0
	for broker := range api.MaxBrokers {
		if Has(s, broker) {
			n++
		}
	}
	return n
}

func List(s api.Set) []int {
	var l []int
	for broker := range api.MaxBrokers {
		if Has(s, broker) {
			l = append(l, broker)
		}
	}
	return l
}

// Both are those that are in both.
func Both(a, b api.Set) api.Set { return a & b & known }
