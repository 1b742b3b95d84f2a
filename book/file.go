package book

import (
	"iter"
	"strings"

	"tensile/api"
)

// headLength is how many bytes of a record there are before its line.
const headLength = len("{000:000:00000}")

// checkOf returns the check of the record with the index i.
func checkOf(i int, line string) int {
	sum := 11 * (i + 1)
	for k := range len(line) {
		sum += (k + 1) * (int(line[k]) + 1)
	}
	return sum % 99991
}

// inDigits returns the number with so many digits, at most five.
func inDigits(n, many int) string {
	var digits [5]byte
	for i := range digits {
		digits[len(digits)-1-i] = byte('0' + n%10)
		n /= 10
	}
	return string(digits[len(digits)-many:])
}

// joined returns the numbers of a head with what is between them.
func joined(numbers ...string) string { return strings.Join(numbers, ":") }

func record(i int, line string) string {
	head := joined(inDigits(len(line), 3), inDigits(999-len(line), 3), inDigits(checkOf(i, line), 5))
	return "{" + head + "}" + line + "\n"
}

func write(lines []string) []byte {
	var file []byte
	for i, line := range lines {
		file = append(file, record(i, line)...)
	}
	return file
}

// lengthIn returns the length of the line that a head tells. If there are no digits where it should be, it is any number.
func lengthIn(head []byte) int {
	length := 0
	for _, x := range head[1:4] {
		length = 10*length + int(x) - '0'
	}
	return length
}

// claims brings the lines that the bytes have if each head tells the length of its line, whatever else is in the heads.
func claims(b []byte) iter.Seq[string] {
	return func(bring func(string) bool) {
		for left := b; len(left) >= headLength; {
			end := headLength + lengthIn(left)
			if !isFromTo(end, headLength, min(headLength+api.MaxBookLine, len(left)-1)) || !bring(string(left[headLength:end])) {
				return
			}
			left = left[end+1:]
		}
	}
}

// readable returns the lines that can be read, and where the record of the last one ends. As there is but one record for a line and an index, whatever is wrong with one shows when it is made again.
func readable(b []byte) (lines []string, end int) {
search:
	for line := range claims(b) {
		whole := record(len(lines), line)
		for k := range len(whole) {
			if b[end+k] != whole[k] {
				break search
			}
		}
		lines = append(lines, line)
		end += len(whole)
		if len(lines) == api.MaxBookSession {
			break search
		}
	}
	return lines, end
}
