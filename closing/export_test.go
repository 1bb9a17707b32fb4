package closing

// Ended is for tests alone: of lots that are taken away only sums are told, so which of them was rolled first is seen nowhere else.
var Ended = ended
