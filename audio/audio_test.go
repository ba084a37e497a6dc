package audio

import (
	"bytes"
	"sync"
	"testing"

	"valise/api"
	"valise/wav"
)

func TestInputsStayAsTheyAre(t *testing.T) { // R3: with the room behind their ends
	for name, sound := range sounds() {
		l := luck(9)
		b := append(wav.Make(of(2, 8), l.samples(of(2, 8), 50, sound)), l.bytes(40)...)
		n := len(b) - 30
		before := bytes.Clone(b)
		x, _ := Pack(b[:n])
		if !bytes.Equal(b, before) {
			t.Errorf("%s: what was handed to Pack is turned", name)
		}
		x = append(x, l.bytes(40)...)
		before = bytes.Clone(x)
		Unpack(x[:len(x)-40], n)
		Unpack(x[:len(x)-50], n)
		Unpack(x, n)
		if !bytes.Equal(x, before) {
			t.Errorf("%s: what was handed to Unpack is turned", name)
		}
	}
}

func TestRoomIsNotRead(t *testing.T) { // R3: what is behind the end is not there
	l := luck(10)
	b := wav.Make(of(1, 16), l.bytes(60))
	whole := make([]byte, 0, 3*len(b))
	whole = append(append(whole, b...), b...)
	for n := range b {
		x, is := Pack(whole[:n])
		if y, ok := Pack(bytes.Clone(b[:n:n])); ok != is || !bytes.Equal(x, y) {
			t.Errorf("the first %d bytes are packed otherwise, where others follow", n)
		}
	}
	x, _ := Pack(b)
	for n := range x {
		wrong(t, "the first bytes", x[:n])
	}
}

func TestAnswersAreNewMemory(t *testing.T) { // R3: nothing is kept, and nothing shared
	l := luck(11)
	b := append(wav.Make(of(2, 16), l.bytes(80)), "a tail"...)
	in := bytes.Clone(b)
	x, _ := Pack(in)
	want := bytes.Clone(x)
	clear(in)
	if !bytes.Equal(x, want) {
		t.Error("what is packed hangs on what was handed in")
	}
	copy(in, b)
	clear(x[:cap(x)])
	if again, _ := Pack(in); !bytes.Equal(in, b) || !bytes.Equal(again, want) {
		t.Error("what was handed in, or what is packed, hangs on an answer")
	}
	copy(x, want)
	y, _ := Unpack(x, len(b))
	clear(x)
	if !bytes.Equal(y, b) {
		t.Error("what is unpacked hangs on what was handed in")
	}
	copy(x, want)
	clear(y[:cap(y)])
	if again, err := Unpack(x, len(b)); !bytes.Equal(x, want) || err != api.OK || !bytes.Equal(again, b) {
		t.Error("what was handed in, or what is unpacked, hangs on an answer")
	}
}

func TestNothingGoesOnBeside(t *testing.T) { // R2: calls at one time are answered as if each were alone
	l := luck(12)
	shared := wav.Make(of(3, 16), l.bytes(600))
	want, _ := Pack(shared)
	var join sync.WaitGroup
	for worker := range 8 {
		join.Go(func() {
			l := luck(worker)
			for range 30 {
				w := of(1+l.below(8), one(&l, 8, 16))
				b := wav.Make(w, l.samples(w, 1+l.below(99), sounds()[one(&l, "a hum", "soft", "noise")]))
				x, is := Pack(b)
				y, err := Unpack(x, len(b))
				if !is || err != api.OK || !bytes.Equal(y, b) {
					t.Errorf("a file hangs on what goes on beside it: error %d", err)
				}
				if x, _ := Pack(shared); !bytes.Equal(x, want) {
					t.Error("Pack hangs on what goes on beside it")
				}
				if y, _ := Unpack(want, len(shared)); !bytes.Equal(y, shared) {
					t.Error("Unpack hangs on what goes on beside it")
				}
			}
		})
	}
	join.Wait()
}

func BenchmarkAudio(b *testing.B) {
	for name, sound := range sounds() {
		l := luck(13)
		w := of(2, 16)
		file := wav.Make(w, l.samples(w, (api.MaxData-44)/4, sound))
		x, _ := Pack(file)
		for call, run := range map[string]func(){
			"Pack":   func() { Pack(file) },
			"Unpack": func() { Unpack(x, len(file)) },
		} {
			b.Run(call+" of "+name, func(b *testing.B) {
				b.SetBytes(api.MaxData)
				for b.Loop() {
					run()
				}
			})
		}
	}
}

func FuzzPack(f *testing.F) {
	f.Add(wav.Make(of(1, 8), []byte{1, 2}))
	f.Add(file(chunk("LIST", 1, 1, 1), format(of(2, 16)), chunk("data", 5, 1, 2, 3, 4, 5)))
	f.Add(file(format(of(8, 16)), chunk("data", 1<<32-1, make([]byte, 40)...)))
	f.Fuzz(func(t *testing.T, b []byte) {
		if _, is := wav.Parse(b); is {
			whole(t, "any", b)
		} else {
			refused(t, "any", b)
		}
	})
}

func FuzzUnpack(f *testing.F) {
	for _, w := range shapes() {
		var l luck
		x, _ := Pack(wav.Make(w, l.samples(w, 9, sounds()["a hum"])))
		f.Add(x, 1000)
	}
	f.Fuzz(func(t *testing.T, x []byte, most int) {
		hold(t, x, most)
	})
}
