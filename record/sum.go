package record

// What the sum is at first, and what it is exclusively or'ed with where a one is shifted out.
const (
	sumStart = 4294967295
	sumTurn  = 3988292384
)

// sum gives the sum of bytes.
func sum(bytes []byte) uint32 {
	s := uint32(sumStart)
	for _, b := range bytes {
		s ^= uint32(b)
		for range 8 {
			out := s & 1
			s >>= 1
			if out == 1 {
				s ^= sumTurn
			}
		}
	}
	return ^s
}
