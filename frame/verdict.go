package frame

import (
	"toll/api"
)

// verdict keeps the first fault: what comes behind it says nothing.
type verdict struct{ fault api.Errno }

func (v *verdict) refuse(e api.Errno) {
	if v.fault == api.OK {
		v.fault = e
	}
}
