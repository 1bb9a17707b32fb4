package server

// Counted tells how many requests were answered, and how many of these were refused: no face shows it.
func Counted(s *Server) (answered, refused int64) {
	return s.answered.Load(), s.refused.Load()
}

// FillAgain asks the server to fill its gate a second time.
func FillAgain(s *Server) { s.fill() }
