package topics

import (
	"iter"
	"maps"
	"slices"

	"bulla/api"
)

// topic is what stands under a topic's name. A record that stands in it is never written to, so that its clones have the same ones.
type topic struct {
	base    int64
	records []api.Record // from base on
	groups  map[string]int64
}

func newTopic() *topic {
	return &topic{groups: map[string]int64{}}
}

// next is the offset behind the last record.
func (x *topic) next() int64 {
	return x.base + int64(len(x.records))
}

// publish puts records behind the others, and tells the first one's offset.
func (x *topic) publish(l []api.Record) (int64, api.Errno) {
	first := x.next()
	if len(x.records)+len(l) > api.MaxKept || first+int64(len(l)) > api.MaxNum {
		return 0, api.ErrQuota
	}
	x.records = append(x.records, l...)
	return first, api.OK
}

// commit gives a group an offset.
func (x *topic) commit(group string, offset int64) (int64, api.Errno) {
	last, there := x.groups[group]
	if offset < last || offset > x.next() {
		return 0, api.ErrOffset
	}
	if !there && len(x.groups) >= api.MaxGroups {
		return 0, api.ErrFull
	}
	x.groups[group] = offset
	return offset, api.OK
}

// trim lets the records below an offset go.
func (x *topic) trim(offset int64) (int64, api.Errno) {
	if offset < x.base || offset > x.next() {
		return 0, api.ErrOffset
	}
	x.records = slices.Delete(x.records, 0, int(offset-x.base)) // not a piece of the slice, which would hold on to those that are gone
	x.base = offset
	return offset, api.OK
}

// all goes through offsets and records.
func (x *topic) all() iter.Seq2[int64, api.Record] {
	return func(yield func(int64, api.Record) bool) {
		for i, b := range x.records {
			if !yield(x.base+int64(i), b) {
				return
			}
		}
	}
}

func (x *topic) groupNames() []string {
	return slices.Sorted(maps.Keys(x.groups))
}

func (x *topic) clone() *topic {
	return &topic{base: x.base, records: slices.Clone(x.records), groups: maps.Clone(x.groups)}
}
