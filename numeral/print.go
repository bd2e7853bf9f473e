package numeral

import (
	"strconv"
	"strings"

	"simile/api"
	"simile/nat"
)

// sign: what stands ahead of a number's digits.
func sign(negative bool, mag api.Nat) string {
	if negative && nat.Len(mag) > 0 {
		return "-"
	}
	return ""
}

// digits: those of a number in a base, by halves.
func digits(n api.Nat, base int) string {
	scale, _ := nat.Pow(nat.Of(uint64(base)), wordDigits)
	var scales []api.Nat
	for ; nat.Cmp(scale, n) <= 0; scale = nat.Mul(scale, scale) {
		scales = append(scales, scale)
	}
	var out strings.Builder
	writeDigits(&out, n, base, scales)
	text := strings.TrimLeft(out.String(), "0")
	if text == "" {
		return "0"
	}
	return text
}

// writeDigits writes a number below the square of the last scale, with noughts ahead of it to the full length.
func writeDigits(out *strings.Builder, n api.Nat, base int, scales []api.Nat) {
	if len(scales) == 0 {
		word, _ := nat.Uint64(n)
		text := strconv.FormatUint(word, base)
		out.WriteString(strings.Repeat("0", wordDigits-len(text)))
		out.WriteString(text)
		return
	}
	last := len(scales) - 1
	high, low, _ := nat.Div(n, scales[last])
	writeDigits(out, high, base, scales[:last])
	writeDigits(out, low, base, scales[:last])
}
