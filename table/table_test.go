package table

import (
	"bytes"
	"sync"
	"testing"

	"valise/api"
)

// call is one of the package's that answers bytes.
type call func(b []byte, n int) []byte

// calls are all of them.
func calls() map[string]call {
	return map[string]call{
		"Delta":   Delta,
		"Undelta": Undelta,
		"Pack":    func(b []byte, _ int) []byte { x, _ := Pack(b); return x },
		"Unpack":  func(b []byte, n int) []byte { x, _ := Unpack(b, n); return x },
	}
}

// given are bytes for all calls: tables, tables packed, and others.
func given() [][]byte {
	l := luck(1)
	all := [][]byte{{0}, {2, 0}, l.bytes(9), l.bytes(70)}
	for _, width := range []int{2, 3, 8, 16} {
		b := l.records(71, width, 15)
		x, _ := Pack(b)
		all = append(all, b, x, packedBy(b, 17-width))
	}
	return all
}

func TestExample(t *testing.T) { // example 1
	b := []byte{1, 2, 1, 2, 1, 2, 1, 2}
	if width, score := Width(b), Score(b, 2); width != 2 || score != 6 {
		t.Errorf("Width %d, Score %d; want 2, 6", width, score)
	}
	if got := Delta([]byte{5, 7}, 1); !bytes.Equal(got, []byte{5, 2}) {
		t.Errorf("Delta: %x; want 0502", got)
	}
}

func TestWhatIsPackedIsUnpacked(t *testing.T) { // what follows
	packed := 0
	for _, b := range given() {
		if x, is := Pack(b); is {
			packed++
			unpacked(t, x, b)
		}
	}
	if packed < 4 {
		t.Errorf("%d are packed", packed)
	}
}

func TestInputsStayAsTheyAre(t *testing.T) { // R3: with the room behind their ends
	l := luck(2)
	for _, b := range given() {
		in := append(bytes.Clone(b), l.bytes(30)...)
		before := bytes.Clone(in)
		for _, size := range []int{len(b), len(b) - 1, len(b) + 7} {
			for _, n := range []int{least, 0, 1, 2, 5, 71, most} {
				for name, call := range calls() {
					call(in[:size], n)
					if !bytes.Equal(in, before) {
						t.Fatalf("%s of %.60x, %d: what was handed in is turned", name, before[:size], n)
					}
				}
				Score(in[:size], n)
				Width(in[:size])
				if !bytes.Equal(in, before) {
					t.Fatalf("Score or Width of %.60x, %d: what was handed in is turned", before[:size], n)
				}
			}
		}
	}
}

func TestRoomIsNotRead(t *testing.T) { // R3: what is behind the end is not there
	for _, b := range given() {
		for size := range len(b) + 1 {
			cut := bytes.Clone(b[:size:size])
			for _, n := range []int{0, 1, 2, 9, 71, most} {
				for name, call := range calls() {
					if want, got := call(cut, n), call(b[:size], n); !bytes.Equal(got, want) {
						t.Fatalf("%s of the first %d bytes, %d: %.60x; want %.60x", name, size, n, got, want)
					}
				}
				if Score(cut, n) != Score(b[:size], n) || Width(cut) != Width(b[:size]) {
					t.Fatalf("Score or Width of the first %d bytes, %d, hangs on what is behind", size, n)
				}
			}
		}
	}
}

func TestAnswersAreNewMemory(t *testing.T) { // R3: nothing is kept, and nothing shared; where nothing is turned, too
	for name, call := range calls() {
		for _, b := range append(given(), make([]byte, 40), []byte{2, 1, 7}) {
			for _, n := range []int{-1, 0, 1, 2, 16, 71, 100, most} {
				fresh(t, name, call, b, n)
			}
		}
	}
}

// fresh fails if the answer of b, or of what stands behind its end, is the memory that was handed in, or that of another answer.
func fresh(t *testing.T, name string, call call, b []byte, n int) {
	t.Helper()
	in := bytes.Clone(b)
	got := call(in, n)
	want := bytes.Clone(got)
	for i := range in {
		in[i] ^= 0xff
	}
	if !bytes.Equal(got, want) {
		t.Errorf("%s of %.60x, %d: the answer hangs on what was handed in", name, b, n)
	}
	copy(in, b)
	got = got[:cap(got)]
	for i := range got {
		got[i] ^= 0xff
	}
	if !bytes.Equal(in, b) {
		t.Errorf("%s of %.60x, %d: what was handed in hangs on the answer", name, b, n)
	}
	if got := call(in, n); !bytes.Equal(got, want) {
		t.Errorf("%s of %.60x, %d: an answer hangs on one that was given", name, b, n)
	}
}

func TestNothingGoesOnBeside(t *testing.T) { // R2: calls at one time are answered as if each were alone
	all := given()
	var join sync.WaitGroup
	for worker := range 8 {
		join.Go(func() {
			for seed := 0; seed < 100 && !t.Failed(); seed++ {
				l := luck(seed + worker)
				b, n := one(&l, all...), l.width()
				if Score(b, n) != scoreByWords(b, n) || Width(b) != widthByWords(b) {
					t.Error("Score or Width hangs on what goes on beside it")
				}
				if !bytes.Equal(Delta(b, n), deltaByWords(b, n)) || !bytes.Equal(Undelta(b, n), undeltaByWords(b, n)) {
					t.Error("Delta or Undelta hangs on what goes on beside it")
				}
				if x, is := Pack(b); is && !bytes.Equal(x, packedBy(b, widthByWords(b))) {
					t.Error("Pack hangs on what goes on beside it")
				}
				y, err := Unpack(b, n)
				if want, fault := unpackByWords(b, n); err != fault || !bytes.Equal(y, want) {
					t.Error("Unpack hangs on what goes on beside it")
				}
			}
		})
	}
	join.Wait()
}

func BenchmarkTable(b *testing.B) {
	l := luck(3)
	records := l.records(api.MaxData, 12, 20)
	x, _ := Pack(records)
	for name, call := range map[string]func(){
		"Score":   func() { Score(records, 12) },
		"Width":   func() { Width(records) },
		"Delta":   func() { Delta(records, 12) },
		"Undelta": func() { Undelta(records, 12) },
		"Pack":    func() { Pack(records) },
		"Unpack":  func() { Unpack(x, api.MaxData) },
	} {
		b.Run(name, func(b *testing.B) {
			b.SetBytes(api.MaxData)
			for b.Loop() {
				call()
			}
		})
	}
}

func FuzzTable(f *testing.F) {
	for _, b := range given() {
		f.Add(b, 2)
	}
	f.Add([]byte(nil), -1)
	f.Fuzz(func(t *testing.T, b []byte, n int) {
		scored(t, b, n, scoreByWords(b, n))
		wide(t, b, widthByWords(b))
		if len(b) < 2000 { // the words sum each column anew for each byte
			lessened(t, b, n)
			hold(t, b, n)
		}
		if width := widthByWords(b); width != 0 && len(b) <= api.MaxData {
			whole(t, b, width)
		} else {
			refused(t, b)
		}
	})
}
