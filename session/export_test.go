package session

// Room tells where a session's buffer is, and how much it takes: no face shows it.
func Room(s *Session) (first *byte, many int) {
	if cap(s.buffer) == 0 {
		return nil, 0
	}
	return &s.buffer[:1][0], cap(s.buffer)
}
