package tower

// Kept tells how many sessions a tower keeps: no face shows it.
func Kept(t *Tower) int { return len(t.sessions) }
