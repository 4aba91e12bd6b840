package window

// UpTo is a window that met all numbers up to one: to meet them one by one would take too long near the greatest.
func UpTo(last uint32) *Window { return &Window{last: last} }
