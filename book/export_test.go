package book

// Puts tells how many records were put: no face shows it.
func Puts(b *Book) int64 { return b.puts.Load() }

// OpensOnce asks a book's store to be opened again, and tells whether it stays the one that it is.
func OpensOnce(b *Book) bool {
	was := b.txns
	e := b.open()
	return e == b.fault && was == b.txns
}
