package shell

import (
	"toll/api"
	"toll/disk"
	"toll/server"
)

// Played is Run that also tells the server it left behind, which no face shows; none, where the script is long as a whole.
func Played(script string) (string, *server.Server) {
	lines := linesOf(script)
	if len(script) > api.MaxScript || len(lines) > api.MaxCmds {
		return Run(script), nil
	}
	p := newPlay()
	return p.answerAll(lines), p.server
}

// CutOff is how a script's power goes.
func CutOff(d *disk.Disk) { cutOff(d) }
