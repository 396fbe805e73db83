package crc

// Table answers the words that the table has.
func Table() [256]uint32 { return table }

// SetTable gives the table other words.
func SetTable(words [256]uint32) { table = words }
