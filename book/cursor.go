package book

import (
	"strconv"
	"strings"

	"toll/rec"
)

// A cursor's text: whether it is on, by a sign; its Time in digits of base 16; its Name.
const (
	isOn      = "1"
	isOff     = "0"
	timeStart = len(isOn)
	timeEnd   = timeStart + 16
)

func encodeCursor(c Cursor) string {
	on := isOff
	if c.On {
		on = isOn
	}
	return on + rec.Number(c.Time) + c.Name
}

// parseCursor tells the zero one where none was put yet.
func parseCursor(s string) Cursor {
	if len(s) < timeEnd {
		return Cursor{}
	}
	time, _ := strconv.ParseInt(s[timeStart:timeEnd], 16, 64)
	return Cursor{On: s[:timeStart] == isOn, Time: int(time), Name: strings.Clone(s[timeEnd:])}
}
