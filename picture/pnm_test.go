package picture

import (
	"fmt"
	"strconv"
	"strings"
	"testing"
)

// gray is a file of one plane, with these texts ahead of its numbers and behind the last one, and 2 pixels in a row, 3 rows.
func gray(a, b, c, d string) []byte {
	return []byte("P5" + a + "2" + b + "3" + c + "255" + d + "pixels")
}

func TestPnmOfKnown(t *testing.T) { // P16.2: files that other programs made
	found(t, "three planes", []byte("P6\n3 2\n255\n\x01\x02\x03\x04\x05\x06\x07\x08\x09\x0a\x0b\x0c\x0d\x0e\x0f\x10\x11\x12"), at(3, 2, 3, 9, 11))
	found(t, "one", []byte("P5\n5 2\n255\n\x00\x40\x80\xc0\xff\x01\x41\x81\xc1\xfe"), at(5, 2, 1, 5, 11))
	found(t, "a remark", []byte("P5\n# CREATOR: a program\n5 2\n255\n\x00\x40\x80\xc0\xff\x01\x41\x81\xc1\xfe"), at(5, 2, 1, 5, 32))
	lacking(t, "two bytes each", []byte("P6\n1 1\n65535\n\x01\x01\x02\x02\x03\x03"))
	lacking(t, "numbers as texts", []byte("P3\n1 1\n255\n1 2 3\n"))
	lacking(t, "bits", []byte("P4\n8 1\n\xff"))
}

func TestPnmLengths(t *testing.T) { // P16.2: From, and Stride times Height
	for kind, planes := range map[string]int{"P5": 1, "P6": 3} {
		for width := 1; width <= 12; width++ {
			for height := 1; height <= 12; height++ {
				head := fmt.Sprintf("%s %d %d 1\n", kind, width, height)
				pixels := strings.Repeat("#", planes*width*height)
				want := at(width, height, planes, planes*width, len(head))
				found(t, "as long as it has to be", []byte(head+pixels), want)
				found(t, "longer", []byte(head+pixels+"1"), want)
				lacking(t, "a byte less", []byte(head+pixels[1:]))
				lacking(t, "a head", []byte(head))
			}
		}
	}
}

func TestPnmBeginnings(t *testing.T) { // P16.2
	b := []byte("P6 #a\n 2#b\n1 7\nabcdefgh")
	for n := range b {
		if n < 21 {
			lacking(t, "a beginning", b[:n])
		} else {
			found(t, "a beginning", b[:n], at(2, 1, 3, 6, 15))
		}
	}
}

func TestPnmKinds(t *testing.T) { // P16.2: P5, P6 alone
	for v := range 256 {
		c := string([]byte{byte(v)})
		for _, kind := range []string{"P" + c, c + "5", c + "6"} {
			b := []byte(kind + " 1 1 255 abc")
			switch kind {
			case "P5":
				found(t, kind, b, at(1, 1, 1, 1, 11))
			case "P6":
				found(t, kind, b, at(1, 1, 3, 3, 11))
			default:
				lacking(t, strconv.Quote(kind), b)
			}
		}
	}
	lacking(t, "something ahead", []byte(" P5 1 1 255 x"))
	lacking(t, "a remark ahead", []byte("#\nP5 1 1 255 x"))
}

func TestPnmWhite(t *testing.T) { // P16.2: one or more of blank, 09, 0a, 0d, and remarks
	for _, s := range []string{" ", "\t", "\n", "\r", "  ", "\r\n", " \t\n\r", "#\n", "# a b 1 2\n", "##\n", "#\n#\n", "#a\n \r#b\n\t#c\n", "#\r\n", "#\x00\xff\xc3\n", "#" + strings.Repeat("#1 ", 3000) + "\n", strings.Repeat("\n", 3000)} {
		found(t, strconv.Quote("first "+s), gray(s, " ", " ", " "), at(2, 3, 1, 2, 10+len(s)))
		found(t, strconv.Quote("second "+s), gray(" ", s, " ", " "), at(2, 3, 1, 2, 10+len(s)))
		found(t, strconv.Quote("third "+s), gray(" ", " ", s, " "), at(2, 3, 1, 2, 10+len(s)))
		found(t, strconv.Quote("all "+s), gray(s, s, s, " "), at(2, 3, 1, 2, 8+3*len(s)))
	}
	for _, s := range []string{"", "\v", "\f", "\x00", "\x08", "\x0e", "\x1f", "!", "\x85", "\xa0", "\u00a0", "\u2003", ",", "x", "-", "+", "#", "#a", "#\r", "# ", " #", " \v", "\v ", "/**/", ";a\n", " x ", "#\nx"} {
		lacking(t, strconv.Quote("first "+s), gray(s, " ", " ", " "))
		lacking(t, strconv.Quote("third "+s), gray(" ", " ", s, " "))
		if s != "" { // then the number is another one, and the next one lacks
			lacking(t, strconv.Quote("second "+s), gray(" ", s, " ", " "))
		}
	}
	lacking(t, "nothing between", gray(" ", "", " ", " "))
	for c := range 256 { // each byte alone
		s := string([]byte{byte(c)})
		if strings.Contains(" \t\n\r", s) {
			found(t, strconv.Quote(s), gray(s, s, s, s), at(2, 3, 1, 2, 11))
			continue
		}
		lacking(t, strconv.Quote(s), gray(s, " ", " ", " "))
		lacking(t, strconv.Quote(s), gray(" ", " ", s, " "))
		lacking(t, strconv.Quote(s), gray(" ", " ", " ", s))
	}
}

func TestPnmBehindTheValue(t *testing.T) { // P16.2: just one byte, which is no remark; then pixels, whatever they are
	for _, s := range []string{" ", "\t", "\n", "\r"} {
		for _, pixels := range []string{"pixels", "      ", "\n#\n\n\n\n", "#pixel", "123456", "\x00\x00\x00\x00\x00\x00"} {
			found(t, strconv.Quote(s+pixels), []byte("P5 2 3 255"+s+pixels), at(2, 3, 1, 2, 11))
		}
	}
	found(t, "two of them", gray(" ", " ", " ", "\r\n"), at(2, 3, 1, 2, 11))
	for _, s := range []string{"", "#", "#\n", "#\n ", "x", "\v", "\x00", "0", "-", "."} {
		lacking(t, strconv.Quote(s), gray(" ", " ", " ", s))
	}
	lacking(t, "no pixels", []byte("P5 2 3 255 "))
	lacking(t, "nothing", []byte("P5 2 3 255"))
}

func TestPnmSides(t *testing.T) { // P16.2: from 1 to 32,768
	pixels := strings.Repeat("x", 3<<15)
	for n := 1; n <= 1<<15; n += 1 + n/20*2 {
		s := strconv.Itoa(n)
		found(t, "a width of "+s, []byte("P5 "+s+" 1 9 "+pixels), at(n, 1, 1, n, 8+len(s)))
		found(t, "a height of "+s, []byte("P6 1 "+s+" 9 "+pixels), at(1, n, 3, 3, 8+len(s)))
	}
	found(t, "the greatest width", []byte("P6 32768 1 9 "+pixels), at(32768, 1, 3, 98304, 13))
	found(t, "the greatest height", []byte("P6 1 32768 9 "+pixels), at(1, 32768, 3, 3, 13))
	for _, s := range []string{"0", "00", "00000", "32769", "32770", "40000", "65535", "65536", "65537", "99999"} {
		lacking(t, "a width of "+s, []byte("P5 "+s+" 1 9 "+pixels))
		lacking(t, "a height of "+s, []byte("P5 1 "+s+" 9 "+pixels))
	}
	lacking(t, "both as great as they may be", []byte("P6 32768 32768 9 "+pixels))
	lacking(t, "both great", []byte("P5 32768 32768 9 "+pixels))
}

func TestPnmValue(t *testing.T) { // P16.2: the greatest value, from 1 to 255
	for v := range 100000 {
		_, ok := Pnm([]byte("P5 1 1 " + strconv.Itoa(v) + " x"))
		if ok != (v >= 1 && v <= 255) {
			t.Fatalf("a greatest value of %d: %v", v, ok)
		}
	}
}

func TestPnmDigits(t *testing.T) { // P16.2: one to five of them
	for n := range 10 {
		zeros := strings.Repeat("0", n)
		for i := range 3 {
			all := []string{"1", "1", "1"}
			all[i] = zeros + "1"
			head := "P5 " + strings.Join(all, " ") + " "
			if n < 5 {
				found(t, head, []byte(head+"x"), at(1, 1, 1, 1, 9+n))
			} else {
				lacking(t, head, []byte(head+"x"))
			}
			all[i] = zeros
			lacking(t, "zeros", []byte("P5 "+strings.Join(all, " ")+" x"))
		}
	}
	for _, s := range []string{"", "a", "-1", "+1", "1.", "1.0", "1e0", "0x1", "1_1", ".1", "\u0661", "\xb2", ":", "/", "1/", "1:", "100001", "65537", "4294967297", "18446744073709551617", "340282366920938463463374607431768211457", strings.Repeat("1", 3000)} {
		what := strconv.Quote(s)
		lacking(t, "a width of "+what, []byte("P5 "+s+" 1 1 x"))
		lacking(t, "a height of "+what, []byte("P5 1 "+s+" 1 x"))
		lacking(t, "a greatest value of "+what, []byte("P5 1 1 "+s+" x"))
	}
}
