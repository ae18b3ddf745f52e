package quay

import (
	"hash/crc32"
	"strings"
	"testing"
)

func TestSumTable(t *testing.T) {
	// Of the common table of 256, the half bytes that stand ahead are these.
	for i, s := range sumTable {
		if want := crc32.IEEETable[i<<4]; s != want {
			t.Errorf("the table has %08x for %d, want %08x", s, i, want)
		}
	}
}

func TestSum(t *testing.T) {
	if s := sum(0, "123456789"); s != 0xcbf43926 {
		t.Errorf("the sum is %08x, want cbf43926", s)
	}
	text := strings.Repeat("quay\x00\xff\x80 \n", 9)
	for n := range len(text) {
		if s, want := sum(0, text[:n]), crc32.ChecksumIEEE([]byte(text[:n])); s != want {
			t.Errorf("the sum of %q is %08x, want %08x", text[:n], s, want)
		}
		if s, want := sum(sum(0, text[:n]), text[n:]), sum(0, text); s != want {
			t.Errorf("in two steps, the first of %d bytes, the sum is %08x, want %08x", n, s, want)
		}
	}
	for i := range 256 {
		one := string([]byte{byte(i)})
		if s, want := sum(0, one), crc32.ChecksumIEEE([]byte(one)); s != want {
			t.Errorf("the sum of %q is %08x, want %08x", one, s, want)
		}
	}
}
