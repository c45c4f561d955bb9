package octets

// polynomial is Castagnoli's, its bits turned round: the lowest bit of a byte goes in first.
const polynomial = 0x82f63b78

// Sum: CRC-32C.
func Sum(b []byte) uint32 {
	steps := sumSteps()
	sum := ^uint32(0)
	for _, c := range b {
		sum ^= uint32(c)
		sum = sum>>4 ^ steps[sum&15]
		sum = sum>>4 ^ steps[sum&15]
	}
	return ^sum
}

// sumSteps: what the lowest four bits of a sum leave behind when they are shifted out. Four bits and not eight, since the array is reckoned anew for each sum, and most of them are of few bytes.
func sumSteps() [16]uint32 {
	var steps [16]uint32
	for i := range steps {
		s := uint32(i)
		for range 4 {
			if s&1 == 1 {
				s = s>>1 ^ polynomial
			} else {
				s >>= 1
			}
		}
		steps[i] = s
	}
	return steps
}
