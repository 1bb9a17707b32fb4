package tower

import (
	"toll/api"
	"toll/frame"
	"toll/session"
)

// answerAll does what was asked for, item by item. Where the power goes nothing is answered, not even what was done ahead: whoever asked sends it again, and is told then.
func (t *Tower) answerAll(items []session.Item) ([]byte, api.Errno) {
	var frames []byte
	for _, x := range items {
		a, e := t.answer(x)
		if e != api.OK {
			return nil, e
		}
		frames = append(frames, framed(a)...)
	}
	return frames, api.OK
}

// answer tells the error of bytes that are no request; such an item does nothing.
func (t *Tower) answer(x session.Item) (api.Answer, api.Errno) {
	if x.Err != api.OK {
		return api.Answer{Err: x.Err}, api.OK
	}
	return t.server.Do(x.Request)
}

// framed lays an answer into a frame. None is too long for one, as a name in it has MaxName bytes at most.
func framed(a api.Answer) []byte {
	f, _ := frame.Frame(frame.EncodeAnswer(a))
	return f
}
