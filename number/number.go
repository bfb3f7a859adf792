// Package number reads the numbers of the program's texts: they have one form, and differ only in how many digits they may have.
package number

// Read a number from 0 on, without needless zeros, of at most so many digits.
// A caller asks for at most eighteen: so many fit into an int, whatever they are.
func Read(s string, most int) (int, bool) {
	if s == "" || len(s) > most || len(s) > 1 && s[0] == '0' {
		return 0, false
	}
	n := 0
	for i := range len(s) {
		c := s[i]
		if c < '0' || c > '9' {
			return 0, false
		}
		n = n*10 + int(c-'0')
	}
	return n, true
}
