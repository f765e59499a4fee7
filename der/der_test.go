package der_test

import (
	"bytes"
	"encoding/hex"
	"math"
	"math/big"
	"math/rand/v2"
	"strings"
	"testing"

	"sealring/api"
	"sealring/der"
)

const most = math.MaxUint64

// text of bytes written out in base 16, worked out without package der.
func text(t *testing.T, s string) []byte {
	t.Helper()
	b, err := hex.DecodeString(strings.ReplaceAll(s, " ", ""))
	if err != nil {
		t.Fatal(err)
	}
	return b
}

// body of n bytes that tells one place from the next.
func body(n int) []byte {
	b := make([]byte, n)
	for i := range b {
		b[i] = byte(i*7 + i>>8 + 1)
	}
	return b
}

// length is P40's LENGTH.
func length(n int) []byte {
	if n < 128 {
		return []byte{byte(n)}
	}
	if n < 256 {
		return []byte{129, byte(n)}
	}
	return []byte{130, byte(n / 256), byte(n % 256)}
}

// itemText is P40's text of an item.
func itemText(tag byte, body []byte) []byte {
	return bytes.Join([][]byte{{tag}, length(len(body)), body}, nil)
}

func sameItem(a, b api.Item) bool { return a.Tag == b.Tag && bytes.Equal(a.Body, b.Body) }

// first holds First to what it must answer.
func first(t *testing.T, b []byte, item api.Item, n int) {
	t.Helper()
	if x, k, e := der.First(b); !sameItem(x, item) || k != n || e != api.OK {
		t.Errorf("First of %d bytes = %d bytes of tag %d, %d, %d; want %d of tag %d, %d", len(b), len(x.Body), x.Tag, k, e, len(item.Body), item.Tag, n)
	}
}

// firstFails holds First to an error, and to nothing beside it.
func firstFails(t *testing.T, b []byte, want api.Errno) {
	t.Helper()
	if x, n, e := der.First(b); x.Tag != 0 || x.Body != nil || n != 0 || e != want {
		t.Errorf("First(%.12x, of %d bytes) = %v, %d, %d; want error %d alone", b, len(b), x, n, e, want)
	}
}

// readFails holds Read to an error, and to nothing beside it.
func readFails(t *testing.T, b []byte, want api.Errno) {
	t.Helper()
	if l, e := der.Read(b); l != nil || e != want {
		t.Errorf("Read(%.12x, of %d bytes) = %d items, %d; want error %d alone", b, len(b), len(l), e, want)
	}
}

func TestP40Examples(t *testing.T) {
	for _, c := range []struct {
		items []api.Item
		want  string
	}{
		{nil, ""},
		{[]api.Item{}, ""},
		{[]api.Item{{}}, "0000"},
		{[]api.Item{{Tag: 4, Body: []byte{1, 2}}}, "04 02 01 02"},
		{[]api.Item{{Tag: 255, Body: []byte{}}}, "ff 00"},
		{[]api.Item{{Tag: 128, Body: []byte{129}}, {}, {Tag: 130, Body: []byte{0, 0}}}, "80 01 81 00 00 82 02 00 00"},
		{[]api.Item{{Tag: 1}, {Tag: 1}}, "01 00 01 00"},
	} {
		if b, e := der.Write(c.items); !bytes.Equal(b, text(t, c.want)) || e != api.OK {
			t.Errorf("Write(%v) = %x, %d; want %s", c.items, b, e, c.want)
		}
	}
}

func TestP40LengthExamples(t *testing.T) {
	for n, want := range map[int]string{
		0: "00", 1: "01", 127: "7f", 128: "81 80", 129: "81 81", 130: "81 82", 255: "81 ff",
		256: "82 01 00", 257: "82 01 01", 511: "82 01 ff", 512: "82 02 00", 4095: "82 0f ff", 4096: "82 10 00",
	} {
		b, e := der.Write([]api.Item{{Tag: 7, Body: body(n)}})
		if head := text(t, "07"+want); !bytes.Equal(b, append(head, body(n)...)) || e != api.OK {
			t.Errorf("Write of a Body of %d bytes begins with %.4x, %d", n, b, e)
		}
	}
}

func TestP40EveryTag(t *testing.T) {
	for tag := range 256 {
		item := api.Item{Tag: byte(tag), Body: body(tag)}
		b, e := der.Write([]api.Item{item})
		if want := itemText(item.Tag, item.Body); !bytes.Equal(b, want) || e != api.OK {
			t.Errorf("Write of tag %d = %.4x, %d", tag, b, e)
		}
	}
}

func TestP40EveryLength(t *testing.T) {
	for n := range api.MaxBody + 1 {
		item := api.Item{Tag: byte(n), Body: body(n)}
		b, e := der.Write([]api.Item{item})
		want := itemText(item.Tag, item.Body)
		if !bytes.Equal(b, want) || e != api.OK {
			t.Errorf("Write of a Body of %d bytes = %.4x, %d", n, b, e)
		}
		first(t, want, item, len(want))
	}
}

func TestP40Large(t *testing.T) {
	fits := make([]api.Item, 200)
	var want []byte
	for i := range fits {
		fits[i] = api.Item{Tag: byte(i), Body: body(4096)}
		want = append(want, itemText(byte(i), body(4096))...)
	}
	// Write has no bound of its text as a whole: only Read has.
	if b, e := der.Write(fits); !bytes.Equal(b, want) || e != api.OK {
		t.Errorf("Write of 200 items of 4096 bytes = %d bytes, %d; want %d", len(b), e, len(want))
	}
	for name, l := range map[string][]api.Item{
		"201 items":          make([]api.Item, 201),
		"1000 items":         make([]api.Item, 1000),
		"4097 bytes":         {{Body: body(4097)}},
		"65536 bytes":        {{Body: body(65536)}},
		"4097 bytes, later":  {{Tag: 1, Body: body(3)}, {Tag: 2, Body: body(4097)}},
		"4097 bytes, ahead":  {{Tag: 1, Body: body(4097)}, {Tag: 2, Body: body(3)}},
		"201 and 4097 bytes": append(make([]api.Item, 200), api.Item{Body: body(4097)}),
	} {
		if b, e := der.Write(l); b != nil || e != api.ErrLarge {
			t.Errorf("Write of %s = %d bytes, %d; want ErrLarge alone", name, len(b), e)
		}
	}
}

func TestP41Examples(t *testing.T) {
	for _, c := range []struct {
		text string
		want []api.Item
	}{
		{"", nil},
		{"0000", []api.Item{{}}},
		{"04 02 01 02", []api.Item{{Tag: 4, Body: []byte{1, 2}}}},
		{"ff 00 ff 00", []api.Item{{Tag: 255}, {Tag: 255}}},
		{"80 01 81 00 00 82 02 00 00", []api.Item{{Tag: 128, Body: []byte{129}}, {}, {Tag: 130, Body: []byte{0, 0}}}},
		{"81 7f" + hex.EncodeToString(body(127)) + "05 01 06", []api.Item{{Tag: 129, Body: body(127)}, {Tag: 5, Body: []byte{6}}}},
		{"04 81 80" + hex.EncodeToString(body(128)) + "05 00", []api.Item{{Tag: 4, Body: body(128)}, {Tag: 5}}},
	} {
		l, e := der.Read(text(t, c.text))
		if len(l) != len(c.want) || e != api.OK {
			t.Errorf("Read(%.20s) = %d items, %d; want %d", c.text, len(l), e, len(c.want))
			continue
		}
		for i, want := range c.want {
			if !sameItem(l[i], want) {
				t.Errorf("Read(%.20s), item %d = %v; want %v", c.text, i, l[i], want)
			}
		}
	}
}

// wrongItems: what each error that Read and First have of one item comes from.
var wrongItems = map[string]api.Errno{
	"00":             api.ErrShort,
	"ff":             api.ErrShort,
	"04 01":          api.ErrShort,
	"04 02 01":       api.ErrShort,
	"04 7f 00":       api.ErrShort,
	"04 80":          api.ErrForm,
	"04 80 00":       api.ErrForm,
	"04 81":          api.ErrShort,
	"04 81 00":       api.ErrForm,
	"04 81 01 00":    api.ErrForm,
	"04 81 7f":       api.ErrForm,
	"04 81 80":       api.ErrShort,
	"04 81 ff 00":    api.ErrShort,
	"04 82":          api.ErrShort,
	"04 82 00":       api.ErrShort,
	"04 82 ff":       api.ErrShort,
	"04 82 00 00":    api.ErrForm,
	"04 82 00 7f":    api.ErrForm,
	"04 82 00 80":    api.ErrForm,
	"04 82 00 ff":    api.ErrForm,
	"04 82 01 00":    api.ErrShort,
	"04 82 10 00":    api.ErrShort,
	"04 82 10 01":    api.ErrLarge,
	"04 82 ff ff":    api.ErrLarge,
	"04 83":          api.ErrForm,
	"04 83 00 10 00": api.ErrForm,
	"04 84":          api.ErrForm,
	"04 ff":          api.ErrForm,
	"04 ff 82 10 01": api.ErrForm,
}

func TestP41WrongItems(t *testing.T) {
	for s, want := range wrongItems {
		b := text(t, s)
		firstFails(t, b, want)
		readFails(t, b, want)
		// What was read ahead of it is not told.
		readFails(t, append(text(t, "04 02 01 02 05 00"), b...), want)
	}
}

func TestP41LargeBody(t *testing.T) {
	// Also where all its bytes are there.
	b := append(text(t, "04 82 10 01"), body(4097)...)
	firstFails(t, b, api.ErrLarge)
	readFails(t, b, api.ErrLarge)
	first(t, itemText(4, body(4096)), api.Item{Tag: 4, Body: body(4096)}, 4100)
}

// wantLength is P41 of a LENGTH alone: of how many bytes it tells, its own, and the error.
func wantLength(head []byte) (int, int, api.Errno) {
	if head[0] == 128 || head[0] > 130 {
		return 0, 0, api.ErrForm
	}
	for n := range 65536 {
		if l := length(n); bytes.HasPrefix(head, l) {
			return n, len(l), api.OK
		}
	}
	return 0, 0, api.ErrForm
}

func TestP41EveryLength(t *testing.T) {
	rest := body(4096)
	for a := range 256 {
		for _, b := range []int{0, 1, 2, 15, 16, 17, 126, 127, 128, 129, 130, 131, 254, 255} {
			for _, c := range []int{0, 1, 127, 128, 255} {
				head := []byte{byte(a), byte(b), byte(c)}
				full := bytes.Join([][]byte{{9}, head, rest}, nil)
				n, size, e := wantLength(head)
				if e == api.OK && n > 4096 {
					e = api.ErrLarge
				}
				if e != api.OK {
					firstFails(t, full, e)
					continue
				}
				end := 1 + size + n
				first(t, full, api.Item{Tag: 9, Body: full[1+size : end]}, end)
			}
		}
	}
}

func TestP41CutAnywhere(t *testing.T) {
	for _, n := range []int{0, 1, 127, 128, 255, 256, 300, 4096} {
		b := itemText(200, body(n))
		for cut := range len(b) {
			firstFails(t, b[:cut], api.ErrShort)
			if cut > 0 {
				readFails(t, b[:cut], api.ErrShort)
			}
		}
	}
}

func TestP41First(t *testing.T) {
	firstFails(t, nil, api.ErrShort)
	firstFails(t, []byte{}, api.ErrShort)
	b := text(t, "04 02 01 02")
	// What stands behind the first item is not looked at.
	for _, behind := range []string{"", "05 00", "05", "05 80", "05 82 ff ff"} {
		first(t, append(b[:4:4], text(t, behind)...), api.Item{Tag: 4, Body: []byte{1, 2}}, 4)
	}
	// First is of any bytes: neither bound of Read's counts.
	first(t, make([]byte, 402), api.Item{}, 2)
	first(t, append(b[:4:4], make([]byte, 1<<20)...), api.Item{Tag: 4, Body: []byte{1, 2}}, 4)
	firstFails(t, append(text(t, "04 80"), make([]byte, 1<<20)...), api.ErrForm)
}

func TestP41MaxText(t *testing.T) {
	// Sixteen items whose texts have 4096 bytes each fill the bound to the byte.
	b := bytes.Repeat(itemText(3, body(4092)), 16)
	l, e := der.Read(b)
	if len(b) != 65536 || len(l) != 16 || e != api.OK {
		t.Errorf("Read of %d bytes = %d items, %d", len(b), len(l), e)
	}
	for i, x := range l {
		if !sameItem(x, api.Item{Tag: 3, Body: body(4092)}) {
			t.Errorf("item %d is not as it was written", i)
		}
	}
	readFails(t, append(b[:61440:61440], itemText(3, body(4093))...), api.ErrLarge)
	// The bound comes ahead of what is wrong in the items.
	for _, s := range []string{"04 80", "04 82 ff ff"} {
		readFails(t, append(text(t, s), make([]byte, 65535)...), api.ErrLarge)
	}
	readFails(t, append(text(t, "04 80"), make([]byte, 65534)...), api.ErrForm)
}

func TestP41MaxItems(t *testing.T) {
	b := make([]byte, 400)
	if l, e := der.Read(b); len(l) != 200 || e != api.OK {
		t.Errorf("Read of 200 items = %d, %d", len(l), e)
	}
	for s, want := range wrongItems {
		wrong := text(t, s)
		// With 200 read any byte that is left is too many; with 199 its own error is told.
		readFails(t, append(b[:400:400], wrong...), api.ErrLarge)
		readFails(t, append(b[:398:398], wrong...), want)
	}
	readFails(t, make([]byte, 401), api.ErrLarge)
	readFails(t, make([]byte, 402), api.ErrLarge)
	readFails(t, make([]byte, 399), api.ErrShort)
	readFails(t, make([]byte, 65536), api.ErrLarge)
}

func TestP41WhatIsWrittenIsRead(t *testing.T) {
	r := rand.New(rand.NewPCG(40, 41))
	for range 300 {
		var l []api.Item
		for range r.IntN(201) {
			l = append(l, api.Item{Tag: byte(r.Uint32()), Body: body(r.IntN(1 << r.IntN(9)))})
		}
		b, e := der.Write(l)
		m, f := der.Read(b)
		if e != api.OK || f != api.OK || len(m) != len(l) {
			t.Fatalf("%d items came back as %d, %d, %d", len(l), len(m), e, f)
		}
		for i := range l {
			if !sameItem(l[i], m[i]) {
				t.Errorf("item %d of %d: %v; want %v", i, len(l), m[i], l[i])
			}
		}
	}
}

// TestP41WhatIsReadIsWritten: each text of items is the only one of its items.
func TestP41WhatIsReadIsWritten(t *testing.T) {
	r := rand.New(rand.NewPCG(41, 40))
	common := []byte{0, 0, 0, 1, 1, 2, 3, 127, 128, 129, 130, 131, 255}
	read := 0
	for range 200000 {
		b := make([]byte, r.IntN(12))
		for i := range b {
			b[i] = common[r.IntN(len(common))]
		}
		l, e := der.Read(b)
		if e != api.OK {
			continue
		}
		read++
		if back, e := der.Write(l); !bytes.Equal(back, b) || e != api.OK {
			t.Fatalf("Read(%x) is written as %x, %d", b, back, e)
		}
	}
	if read < 1000 {
		t.Errorf("only %d of the texts were items", read)
	}
}

// numbers: each length of bits at its edges, and numbers out of a fixed seed.
func numbers() []api.Num {
	out := []api.Num{{}, {most, most, most, most}}
	for i := range 256 {
		power := new(big.Int).Lsh(big.NewInt(1), uint(i))
		for _, by := range []int64{-1, 0, 1} {
			out = append(out, numOf(new(big.Int).Add(power, big.NewInt(by))))
		}
	}
	r := rand.New(rand.NewPCG(42, 42))
	for i := range 512 {
		a := api.Num{r.Uint64(), r.Uint64(), r.Uint64(), r.Uint64()}
		v := new(big.Int).Rsh(value(a), uint(i/2))
		out = append(out, numOf(v))
	}
	return out
}

func value(a api.Num) *big.Int {
	v := new(big.Int)
	for i := len(a) - 1; i >= 0; i-- {
		v.Lsh(v, 64)
		v.Or(v, new(big.Int).SetUint64(a[i]))
	}
	return v
}

func numOf(v *big.Int) api.Num {
	var a api.Num
	for i := range a {
		a[i] = new(big.Int).Rsh(v, uint(64*i)).Uint64()
	}
	return a
}

// numberBytes is P42's Number, worked out without the project's own packages.
func numberBytes(a api.Num) []byte {
	b := value(a).Bytes()
	if len(b) == 0 || b[0] >= 128 {
		b = append([]byte{0}, b...)
	}
	return b
}

func TestP42NumberExamples(t *testing.T) {
	for s, a := range map[string]api.Num{
		"00":                                 {},
		"01":                                 {1},
		"7f":                                 {127},
		"00 80":                              {128},
		"00 ff":                              {255},
		"01 00":                              {256},
		"7f ff":                              {32767},
		"00 80 00":                           {32768},
		"00 ffffffffffffff":                  {1<<56 - 1},
		"00 8000000000000000":                {1 << 63},
		"01 0000000000000000":                {0, 1},
		"01 02030405060708 090a0b0c0d0e0f10": {0x090a0b0c0d0e0f10, 0x0102030405060708},
		"7f" + strings.Repeat("ff", 31):      {most, most, most, most >> 1},
		"00 80" + strings.Repeat("00", 31):   {3: 1 << 63},
		"00" + strings.Repeat("ff", 32):      {most, most, most, most},
	} {
		b := text(t, s)
		if got := der.Number(a); !bytes.Equal(got, b) {
			t.Errorf("Number(%x) = %x; want %s", a, got, s)
		}
		if got, e := der.ReadNumber(b); got != a || e != api.OK {
			t.Errorf("ReadNumber(%s) = %x, %d; want %x", s, got, e, a)
		}
	}
}

func TestP42NumberAll(t *testing.T) {
	for _, a := range numbers() {
		want := numberBytes(a)
		if got := der.Number(a); !bytes.Equal(got, want) {
			t.Errorf("Number(%x) = %x; want %x", a, got, want)
		}
		if got, e := der.ReadNumber(want); got != a || e != api.OK {
			t.Errorf("ReadNumber(%x) = %x, %d; want %x", want, got, e, a)
		}
	}
}

func TestP42ReadNumberWrong(t *testing.T) {
	for s, want := range map[string]api.Errno{
		"":                                 api.ErrShort,
		"80":                               api.ErrForm,
		"ff":                               api.ErrForm,
		"80 00":                            api.ErrForm,
		"00 00":                            api.ErrForm,
		"00 01":                            api.ErrForm,
		"00 7f":                            api.ErrForm,
		"00 00" + strings.Repeat("80", 31): api.ErrForm,
		// The form comes ahead of the bound.
		"00 7f" + strings.Repeat("ff", 40):    api.ErrForm,
		"80" + strings.Repeat("00", 40):       api.ErrForm,
		"01" + strings.Repeat("00", 32):       api.ErrLarge,
		"7f" + strings.Repeat("ff", 32):       api.ErrLarge,
		"01" + strings.Repeat("00", 33):       api.ErrLarge,
		"00 80" + strings.Repeat("00", 32):    api.ErrLarge,
		"00" + strings.Repeat("ff", 33):       api.ErrLarge,
		"01" + strings.Repeat("00", 70000):    api.ErrLarge,
		"00 ff" + strings.Repeat("00", 70000): api.ErrLarge,
	} {
		if a, e := der.ReadNumber(text(t, s)); a != (api.Num{}) || e != want {
			t.Errorf("ReadNumber(%.40s) = %x, %d; want error %d alone", s, a, e, want)
		}
	}
}

func TestP42ReadNumberShortTexts(t *testing.T) {
	for i := range 65536 {
		b := []byte{byte(i >> 8), byte(i)}
		want, wrong := api.Num{uint64(i)}, api.OK
		if !bytes.Equal(b, numberBytes(want)) {
			want, wrong = api.Num{}, api.ErrForm
		}
		if a, e := der.ReadNumber(b); a != want || e != wrong {
			t.Errorf("ReadNumber(%x) = %x, %d; want %x, %d", b, a, e, want, wrong)
		}
	}
}

func TestP42Hex(t *testing.T) {
	all := body(4096)
	for i := range 256 {
		all = append(all, byte(i))
	}
	for _, c := range []struct {
		b    []byte
		want string
	}{
		{nil, ""},
		{[]byte{}, ""},
		{[]byte{0}, "00"},
		{[]byte{10}, "0a"},
		{[]byte{160}, "a0"},
		{[]byte{1, 35, 69, 103, 137, 171, 205, 239}, "0123456789abcdef"},
		{[]byte{255, 0, 254}, "ff00fe"},
		{all, hex.EncodeToString(all)},
	} {
		if s := der.Hex(c.b); s != c.want {
			t.Errorf("Hex(%.20x) = %.40s; want %.40s", c.b, s, c.want)
		}
		if b, e := der.ReadHex(c.want); !bytes.Equal(b, c.b) || e != api.OK {
			t.Errorf("ReadHex(%.40s) = %.20x, %d; want %.20x", c.want, b, e, c.b)
		}
	}
}

func TestP42ReadHexEverySign(t *testing.T) {
	const signs = "0123456789abcdef"
	for i := range 65536 {
		s := string([]byte{byte(i >> 8), byte(i)})
		high, low := strings.Index(signs, s[:1]), strings.Index(signs, s[1:])
		b, e := der.ReadHex(s)
		if high < 0 || low < 0 {
			if b != nil || e != api.ErrForm {
				t.Errorf("ReadHex(%q) = %x, %d; want ErrForm alone", s, b, e)
			}
			continue
		}
		if len(b) != 1 || int(b[0]) != 16*high+low || e != api.OK {
			t.Errorf("ReadHex(%q) = %x, %d", s, b, e)
		}
	}
}

func TestP42ReadHexWrong(t *testing.T) {
	for _, s := range []string{
		"0", "f", "000", "00112", " ", "  ", "00 11", "0x00", "-1", "AB", "aB", "Ab", "0G", "g0", "001g", "g100",
		"\x00\x00", "00\n", "00\n0", "é", "00é0", "٠٠", "\xff\xfe", strings.Repeat("0", 4097), strings.Repeat("0", 4096) + "0A",
	} {
		if b, e := der.ReadHex(s); b != nil || e != api.ErrForm {
			t.Errorf("ReadHex(%.20q) = %x, %d; want ErrForm alone", s, b, e)
		}
	}
}

// roomy: a copy of b with room behind it that a call might write to.
func roomy(b []byte) []byte {
	room := bytes.Repeat([]byte{0xa5}, len(b)+64)
	copy(room, b)
	return room[:len(b)]
}

// untouched tells whether b, made by roomy, is still want, the room behind it included.
func untouched(b, want []byte) bool {
	return bytes.Equal(b[:cap(b)], append(append([]byte{}, want...), bytes.Repeat([]byte{0xa5}, cap(b)-len(want))...))
}

func TestP2NothingIsChanged(t *testing.T) {
	whole := text(t, "04 02 01 02 05 00 06 03 07 08 09")
	for n := range len(whole) + 1 {
		b := roomy(whole[:n])
		der.Read(b)
		der.First(b)
		der.ReadNumber(b)
		der.Hex(b)
		der.Write([]api.Item{{Tag: 1, Body: b}, {Tag: 2, Body: b}})
		if !untouched(b, whole[:n]) {
			t.Errorf("%x became %x", whole[:n], b[:cap(b)])
		}
	}
	l := make([]api.Item, 2, 4)
	l[0], l[1] = api.Item{Tag: 1, Body: body(3)}, api.Item{Tag: 2}
	der.Write(l)
	if all := l[:4]; !sameItem(all[0], api.Item{Tag: 1, Body: body(3)}) || !sameItem(all[1], api.Item{Tag: 2}) || !sameItem(all[2], api.Item{}) || !sameItem(all[3], api.Item{}) {
		t.Errorf("the items became %v", all)
	}
}

// fill b, and the room behind it, so that what shares memory with it shows.
func fill(b []byte) {
	all := b[:cap(b)]
	for i := range all {
		all[i] = 0xee
	}
}

func TestP2NothingIsShared(t *testing.T) {
	whole := text(t, "04 02 01 02 05 00 06 03 07 08 09")
	b := roomy(whole)
	l, _ := der.Read(b)
	x, _, _ := der.First(b)
	fill(b)
	if !sameItem(x, api.Item{Tag: 4, Body: []byte{1, 2}}) || !sameItem(l[0], x) || !sameItem(l[2], api.Item{Tag: 6, Body: []byte{7, 8, 9}}) {
		t.Errorf("a change of what was read shows: %v, %v", x, l)
	}
	fill(l[0].Body)
	fill(l[1].Body)
	if !sameItem(x, api.Item{Tag: 4, Body: []byte{1, 2}}) || !sameItem(l[2], api.Item{Tag: 6, Body: []byte{7, 8, 9}}) {
		t.Errorf("a change of one Body shows in another: %v, %v", x, l)
	}
	given := roomy([]byte{1, 2})
	written, _ := der.Write([]api.Item{{Tag: 4, Body: given}})
	fill(given)
	if !bytes.Equal(written, text(t, "04 02 01 02")) {
		t.Errorf("a change of a Body shows in what was written: %x", written)
	}
	fill(der.Number(api.Num{258}))
	if again := der.Number(api.Num{258}); !bytes.Equal(again, []byte{1, 2}) {
		t.Errorf("a change of a Number's bytes shows in the next: %x", again)
	}
}
