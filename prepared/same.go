package prepared

import (
	"slices"

	"bulla/api"
	"bulla/request"
)

// Same tells whether two certificates are the same.
func Same(a, b api.Prepared) bool {
	return a.View == b.View && a.Seq == b.Seq && a.Digest == b.Digest && a.First == b.First &&
		slices.Equal(a.Signs, b.Signs) && request.Same(a.Batch, b.Batch)
}

// clone is the same certificate in memory of its own.
func clone(p api.Prepared) api.Prepared {
	p.Signs = slices.Clone(p.Signs)
	p.Batch = request.Clone(p.Batch)
	return p
}
