package script

import (
	"strconv"

	"towpath/api"
)

// called: the answer where a call may have refused, and else tells these numbers.
func called(wrong api.Errno, numbers ...int) string {
	if wrong != api.OK {
		return told("error", int(wrong))
	}
	return told("ok", numbers...)
}

// told: a word, and numbers behind it.
func told(word string, numbers ...int) string {
	b := []byte(word)
	for _, n := range numbers {
		b = append(b, ' ')
		b = strconv.AppendInt(b, int64(n), 10)
	}
	return string(b)
}

// listed: what stands ahead, and entries behind it.
func listed(ahead string, l []api.Entry) string {
	b := []byte(ahead)
	for _, e := range l {
		b = append(b, ' ')
		b = appendHex(b, e.Key)
		b = append(b, '=')
		b = appendHex(b, e.Val)
	}
	return string(b)
}

// appendHex: bytes, and those of a text in hexadecimal behind them.
func appendHex(b []byte, text string) []byte {
	for i := range len(text) {
		b = append(b, digits[text[i]>>4], digits[text[i]&15])
	}
	return b
}
