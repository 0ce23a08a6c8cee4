package message

import "bulla/api"

const blankBytes = 2 // of blank's form

// blank stands where a signature is to come: of its place alone the bytes are taken away again.
func blank() api.Sign {
	return api.Sign{Key: 0, Digest: 1}
}

// Unsigned is what of a message is signed.
func Unsigned(m api.Msg) ([]byte, api.Errno) {
	switch m.Kind {
	case api.MsRequest, api.MsSnap, api.MsAsk, api.MsProof:
		return Bytes(m)
	case api.MsViewChange:
		m.Changes = blanked(m.Changes)
	default:
		m.Sign = blank()
	}
	return withoutBlank(Bytes(m))
}

// ChangeBody is what of a view-change is signed.
func ChangeBody(c api.Change) ([]byte, api.Errno) {
	c.Sign = blank()
	return withoutBlank(ChangeBytes(c))
}

// blanked is the one change with a blank, in a list of its own; of other lists nothing is signed.
func blanked(l []api.Change) []api.Change {
	if len(l) != 1 {
		return l
	}
	c := l[0]
	c.Sign = blank()
	return []api.Change{c}
}

func withoutBlank(b []byte, e api.Errno) ([]byte, api.Errno) {
	if e != api.OK {
		return nil, e
	}
	return b[:len(b)-blankBytes], api.OK
}
