package newview

import (
	"cmp"
	"slices"

	"bulla/api"
	"bulla/quorum"
	"bulla/request"
)

// Select is what a new view goes on with: a checkpoint, and which batches above it.
func Select(f int, view int64, changes ...api.Change) (api.Cert, []api.Entry, api.Errno) {
	if e := check(f, view, changes); e != api.OK {
		return api.Cert{}, nil, e
	}
	c := slices.MaxFunc(changes, byCert).Cert // of several the first one
	c.Signs = slices.Clone(c.Signs)
	return c, entries(view, c.Seq, changes), api.OK
}

func byCert(a, b api.Change) int {
	return cmp.Compare(a.Cert.Seq, b.Cert.Seq)
}

// check is the first error of what Select is handed. What the view-changes say is not asked.
func check(f int, view int64, changes []api.Change) api.Errno {
	if e := quorum.Check(f); e != api.OK {
		return e
	}
	if view < 1 || view > api.MaxNum || !areBrokers(f, changes) {
		return api.ErrArg
	}
	if len(changes) < quorum.Big(f) {
		return api.ErrFew
	}
	return api.OK
}

// areBrokers tells whether view-changes are by brokers, rising, so that nobody counts twice.
func areBrokers(f int, changes []api.Change) bool {
	last := -1
	for _, c := range changes {
		if c.From <= last || c.From >= quorum.Brokers(f) {
			return false
		}
		last = c.From
	}
	return true
}

// entries are what a view goes on with above low: number by number what was prepared last, and the empty batch where nothing was, up to the last number that is told, if the window goes so far.
func entries(view, low int64, changes []api.Change) []api.Entry {
	if low < 0 { // no checkpoint has such a number, and how far it is from there to another one may be more than a number can be
		return nil
	}
	told := latest(changes)
	top := low
	for seq := range told {
		top = max(top, seq)
	}
	var l []api.Entry
	for i := range min(top-low, api.Window) {
		seq := low + 1 + i
		l = append(l, api.Entry{View: view, Seq: seq, Batch: request.Clone(told[seq].Batch)})
	}
	return l
}

// latest is, for each number that is told, what was prepared there under the greatest view; of several the first one.
func latest(changes []api.Change) map[int64]api.Prepared {
	told := map[int64]api.Prepared{}
	for _, c := range changes {
		for _, p := range c.Above {
			if ahead, is := told[p.Seq]; !is || ahead.View < p.View {
				told[p.Seq] = p
			}
		}
	}
	return told
}
