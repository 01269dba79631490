package name

import "cicerone/api"

// plain tells whether a byte stands for itself in a text.
func plain(b byte) bool {
	switch {
	case 'a' <= b && b <= 'z', 'A' <= b && b <= 'Z', '0' <= b && b <= '9', b == '-', b == '_', b == '*':
		return true
	}
	return false
}

// Text is a name's text.
func Text(n string) string {
	p, ok := split(n)
	if !ok {
		return ""
	}
	if p.count == 0 {
		return "."
	}
	var text []byte
	for i := range p.count {
		for _, b := range []byte(p.label(n, i)) {
			text = appendByte(text, b)
		}
		text = append(text, '.')
	}
	return string(text)
}

// appendByte writes a byte of a label behind a text.
func appendByte(text []byte, b byte) []byte {
	if plain(b) {
		return append(text, b)
	}
	return append(text, '\\', '0'+b/100, '0'+b/10%10, '0'+b%10)
}

// Parse is the name of a text.
func Parse(s string) (string, api.Errno) {
	if s == "." {
		return root, api.OK
	}
	var n []byte
	for at := 0; at < len(s); {
		label, size := firstLabel(s[at:])
		if size == 0 {
			return "", api.ErrLabel
		}
		n = append(n, byte(len(label)))
		n = append(n, label...)
		at += size
	}
	if len(n) == 0 {
		return "", api.ErrLabel
	}
	// Only here: of a text that is too long and wrong behind that, too, the answer is ErrLabel.
	if len(n)+len(root) > api.MaxName {
		return "", api.ErrName
	}
	return string(n) + root, api.OK
}

// firstLabel is the label that a text begins with, and how many bytes it and its point are written in: 0, if there is none.
func firstLabel(s string) ([]byte, int) {
	var label []byte
	for at := 0; at < len(s); {
		if s[at] == '.' && len(label) > 0 {
			return label, at + 1
		}
		b, size := firstByte(s[at:])
		if size == 0 || len(label) == api.MaxLabel {
			return nil, 0
		}
		label = append(label, b)
		at += size
	}
	return nil, 0
}

// firstByte is the byte of a label that a text begins with, and how many bytes it is written in: 0, if there is none.
func firstByte(s string) (byte, int) {
	if plain(s[0]) {
		return s[0], 1
	}
	if s[0] != '\\' || len(s) < 4 {
		return 0, 0
	}
	value := 0
	for _, digit := range []byte(s[1:4]) {
		if digit < '0' || digit > '9' {
			return 0, 0
		}
		value = value*10 + int(digit-'0')
	}
	if value > 255 {
		return 0, 0
	}
	return byte(value), 4
}
