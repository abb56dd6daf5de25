package leaf_test

import (
	"bytes"
	"encoding/binary"
	"math"
	"slices"
	"strings"
	"testing"

	"bartizan/api"
	"bartizan/ikey"
	"bartizan/leaf"
)

func version(user string, seq uint64, kind byte) api.Key {
	return api.Key{User: []byte(user), Seq: seq, Kind: kind}
}

func put(user string, seq uint64, value string) api.Entry {
	return api.Entry{Key: version(user, seq, api.Put), Value: []byte(value)}
}

func del(user string, seq uint64) api.Entry {
	return api.Entry{Key: version(user, seq, api.Delete)}
}

// alike tells whether two entries have the same fields.
func alike(a, b api.Entry) bool {
	return bytes.Equal(a.Key.User, b.Key.User) && a.Key.Seq == b.Key.Seq && a.Key.Kind == b.Key.Kind && bytes.Equal(a.Value, b.Value)
}

// text makes one of so many bytes, each unlike its neighbours.
func text(size int) string {
	p := make([]byte, size)
	for i := range p {
		p[i] = byte(i*7 + i>>8 + 1)
	}
	return string(p)
}

// numbered makes so many entries that rise, with values of that size.
func numbered(count, user, value int) []api.Entry {
	var l []api.Entry
	for i := range count {
		key := text(user)[:user-1] + string([]byte{byte(i)})
		l = append(l, put(key, uint64(1000+i), text(value)))
	}
	return l
}

// tail tells the eight bytes of a form behind its User.
func tail(seq uint64, kind byte) string {
	return string(binary.LittleEndian.AppendUint64(nil, seq*256+uint64(kind)))
}

// number tells a number of at most two bytes.
func number(n int) string {
	if n <= 240 {
		return string([]byte{byte(n)})
	}
	return string([]byte{byte(241 + (n-240)/256), byte((n - 240) % 256)})
}

// part tells an entry by its numbers and its bytes, right or not.
func part(shared int, left, value string) string {
	return number(shared) + number(len(left)) + number(len(value)) + left + value
}

// foot tells what stands behind all the entries.
func foot(places ...int) string {
	var p []byte
	for _, at := range append(places, len(places)) {
		p = binary.LittleEndian.AppendUint16(p, uint16(at))
	}
	return string(p)
}

// plain packs entries in the plainest way, whether they may be a leaf or not.
func plain(l []api.Entry) string {
	var body, ahead string
	var places []int
	for i, e := range l {
		form := string(e.Key.User) + tail(e.Key.Seq, e.Key.Kind)
		shared := 0
		if i%4 > 0 {
			for shared < len(form) && strings.HasPrefix(ahead, form[:shared+1]) {
				shared++
			}
		} else {
			places = append(places, len(body))
		}
		body += part(shared, form[shared:], string(e.Value))
		ahead = form
	}
	return body + foot(places...)
}

// form is a list of entries and its leaf.
type form struct {
	l []api.Entry
	p string
}

// forms holds leaves at the edges of the chapter's words, each byte of them written out.
func forms() []form {
	one := part(0, "aa"+tail(1, 2), "x")
	two := part(1, "b"+tail(1, 2), "y")
	return []form{
		{nil, "\x00\x00"},
		{[]api.Entry{}, "\x00\x00"},
		{[]api.Entry{put("aa", 1, "x")}, "\x00\x0a\x01aa\x02\x01\x00\x00\x00\x00\x00\x00x\x00\x00\x01\x00"},
		{[]api.Entry{put("aa", 1, "x"), put("ab", 1, "y")}, one + "\x01\x09\x01b\x02\x01\x00\x00\x00\x00\x00\x00y" + "\x00\x00\x01\x00"},
		{[]api.Entry{put("aa", 1, "x"), put("ab", 1, "y"), put("b", 1, "")}, one + two + part(0, "b"+tail(1, 2), "") + foot(0)},
		// Whatever of the eight bytes is the same counts, too.
		{[]api.Entry{put("a", 5, ""), put("a", 4, "")}, part(0, "a"+tail(5, 2), "") + part(2, tail(4, 2)[1:], "") + foot(0)},
		{[]api.Entry{put("a", 5, ""), del("a", 5)}, part(0, "a"+tail(5, 2), "") + part(1, tail(5, 1), "") + foot(0)},
		{[]api.Entry{put("a", 0x200, "v"), put("a", 0x100, "w")}, part(0, "a"+tail(0x200, 2), "v") + part(3, tail(0x100, 2)[2:], "w") + foot(0)},
		{[]api.Entry{put("a", api.MaxSeq, "v"), put("a", 1<<48-1, "w")}, part(0, "a"+tail(api.MaxSeq, 2), "v") + part(8, "\x00", "w") + foot(0)},
		// A User that goes on as the form ahead does.
		{[]api.Entry{put("a", 1, ""), put("a\x02\x01", 0x600, "")}, part(0, "a"+tail(1, 2), "") + part(3, tail(0x600, 2), "") + foot(0)},
		{[]api.Entry{put("a", 1, "x"), put("a"+tail(1, 2), 7, "y")}, part(0, "a"+tail(1, 2), "x") + part(9, tail(7, 2), "y") + foot(0)},
		{[]api.Entry{put("a", 1, "x"), put("a"+tail(1, 2)+"z", 7, "y")}, part(0, "a"+tail(1, 2), "x") + part(9, "z"+tail(7, 2), "y") + foot(0)},
		// The least and the greatest of all.
		{[]api.Entry{del("\x00", 0)}, part(0, "\x00"+tail(0, 1), "") + foot(0)},
		{[]api.Entry{put(text(64), api.MaxSeq, text(512))}, part(0, text(64)+tail(api.MaxSeq, 2), text(512)) + foot(0)},
		{[]api.Entry{put("a", 1, text(240)), put("b", 1, text(241))}, part(0, "a"+tail(1, 2), text(240)) + part(0, "b"+tail(1, 2), text(241)) + foot(0)},
		// A Delete may have a value.
		{[]api.Entry{{Key: version("a", 3, api.Delete), Value: []byte("v")}}, part(0, "a"+tail(3, 1), "v") + foot(0)},
		{steps(), stepsLeaf()},
	}
}

// steps holds entries that go on behind two of the steps.
func steps() []api.Entry {
	return []api.Entry{
		put("ka", 9, "0"), put("kb", 9, "1"), put("kc", 9, ""), put("kd", 9, "3"),
		put("ke", 9, "4"), put("ke", 8, "5"), del("ke", 7), put("kf", 1, "7"),
		put("kg", 1, ""),
	}
}

func stepsLeaf() string {
	first := part(0, "ka"+tail(9, 2), "0") + part(1, "b"+tail(9, 2), "1") + part(1, "c"+tail(9, 2), "") + part(1, "d"+tail(9, 2), "3")
	second := part(0, "ke"+tail(9, 2), "4") + part(3, tail(8, 2)[1:], "5") + part(2, tail(7, 1), "") + part(1, "f"+tail(1, 2), "7")
	third := part(0, "kg"+tail(1, 2), "")
	return first + second + third + foot(0, len(first), len(first)+len(second))
}

func TestStep(t *testing.T) {
	if leaf.Step != 4 {
		t.Errorf("Step = %d", leaf.Step)
	}
}

func TestBuild(t *testing.T) {
	for _, f := range forms() {
		if p, err := leaf.Build(f.l); string(p) != f.p || err != api.OK {
			t.Errorf("Build(%v) = % x, %d, want % x", f.l, p, err, f.p)
		}
	}
}

func TestRead(t *testing.T) {
	for _, f := range forms() {
		if l, err := leaf.Read([]byte(f.p)); !slices.EqualFunc(l, f.l, alike) || err != api.OK {
			t.Errorf("Read(% x) = %v, %d, want %v", f.p, l, err, f.l)
		}
	}
}

func TestEachCountOfEntries(t *testing.T) {
	for count := range 65 {
		for _, value := range []int{0, 1, 3, 240, 241, 512} {
			for _, user := range []int{1, 2, 63, 64} {
				l := numbered(count, user, value)
				p, err := leaf.Build(l)
				if string(p) != plain(l) || err != api.OK {
					t.Fatalf("Build of %d, %d, %d: %d bytes, %d", count, user, value, len(p), err)
				}
				if again, err := leaf.Read(p); !slices.EqualFunc(again, l, alike) || err != api.OK {
					t.Fatalf("Read of %d, %d, %d: %d entries, %d", count, user, value, len(again), err)
				}
			}
		}
	}
}

// The greatest leaf's places need both of their bytes.
func TestTheGreatestLeaf(t *testing.T) {
	var l []api.Entry
	for i := range 64 {
		l = append(l, put(string([]byte{byte(i)})+text(63), api.MaxSeq, text(512)))
	}
	p, err := leaf.Build(l)
	if len(p) != 64*(4+72+512)+16*2+2 || string(p) != plain(l) || err != api.OK {
		t.Fatalf("%d bytes, %d", len(p), err)
	}
	if again, err := leaf.Read(p); !slices.EqualFunc(again, l, alike) || err != api.OK {
		t.Errorf("%d entries, %d", len(again), err)
	}
	if e, ok, err := leaf.From(p, l[63].Key); !ok || !alike(e, l[63]) || err != api.OK {
		t.Errorf("From = %v, %t, %d", e, ok, err)
	}
}

func refusesBuild(t *testing.T, l []api.Entry, want api.Errno) {
	t.Helper()
	if p, err := leaf.Build(l); len(p) != 0 || err != want {
		t.Errorf("Build(%.200v) = % x, %d, want %d", l, p, err, want)
	}
}

// wrong holds entries that aren't right, and why.
func wrong() map[api.Errno][]api.Entry {
	long := text(api.MaxValue + 1)
	return map[api.Errno][]api.Entry{
		api.ErrArg: {
			put("a", api.MaxSeq+1, ""),
			put("a", math.MaxUint64, ""),
			{Key: version("a", 1, 0)},
			{Key: version("a", 1, api.Range)},
			{Key: version("a", 1, 255)},
			{Key: version("", 1, api.Range)},
			{Key: version(text(65), 1, 0), Value: []byte(long)},
			{Key: version("a", 1, 4), Value: []byte(long)},
			{},
		},
		api.ErrShort: {
			put("", 1, ""),
			put("", 1, long),
			del("", 0),
			{Key: api.Key{Seq: 1, Kind: api.Put}},
		},
		api.ErrLong: {
			put(text(65), 1, ""),
			del(text(65), 1),
			put(text(300), 1, long),
			put("a", 1, long),
			put("a", 1, text(70000)),
			{Key: version("a", 1, api.Delete), Value: []byte(long)},
		},
	}
}

func TestBuildOfWrong(t *testing.T) {
	for want, l := range wrong() {
		for _, e := range l {
			refusesBuild(t, []api.Entry{e}, want)
			refusesBuild(t, []api.Entry{put("\x00", 1, ""), e}, want)
			refusesBuild(t, []api.Entry{e, put("z", 1, "")}, want)
			// It goes ahead of an order that isn't right, wherever that is.
			refusesBuild(t, []api.Entry{e, e}, want)
			refusesBuild(t, []api.Entry{put("z", 1, ""), put("y", 1, ""), e}, want)
			refusesBuild(t, []api.Entry{e, put("z", 1, ""), put("y", 1, "")}, want)
			// The first one that isn't right tells the error.
			for _, others := range wrong() {
				refusesBuild(t, []api.Entry{e, others[0]}, want)
				refusesBuild(t, append([]api.Entry{put("z", 1, ""), e}, others...), want)
			}
		}
	}
}

func TestBuildOfTooMany(t *testing.T) {
	refusesBuild(t, numbered(65, 1, 0), api.ErrLong)
	refusesBuild(t, numbered(200, 4, 9), api.ErrLong)
	// It goes ahead of all else that isn't right.
	refusesBuild(t, make([]api.Entry, 65), api.ErrLong)
	refusesBuild(t, make([]api.Entry, 64), api.ErrArg)
	refusesBuild(t, slices.Repeat([]api.Entry{put("a", 1, "")}, 65), api.ErrLong)
	refusesBuild(t, slices.Repeat([]api.Entry{put("a", 1, "")}, 64), api.ErrOrder)
}

// fallen holds two entries that don't rise, of each kind.
func fallen() [][]api.Entry {
	return [][]api.Entry{
		{put("b", 1, ""), put("a", 1, "")},
		{put("a", 1, ""), put("a", 1, "")},
		{put("a", 1, "x"), put("a", 1, "y")},
		{del("a", 1), del("a", 1)},
		{put("a", 4, ""), put("a", 5, "")},
		{del("a", 5), put("a", 5, "")},
		{put("ab", 9, ""), put("a", 1, "")},
		{put("a\x00", 1, ""), put("a", 1, "")},
		{put("\x80", 1, ""), put("\x7f", 1, "")},
		{put("a", 0xff, ""), put("a", 0x100, "")},
	}
}

func TestBuildOfWhatDoesNotRise(t *testing.T) {
	for _, l := range fallen() {
		refusesBuild(t, l, api.ErrOrder)
		refusesBuild(t, append([]api.Entry{put("\x00", 1, "")}, l...), api.ErrOrder)
		refusesBuild(t, append(slices.Clone(l), put("\xff", 1, "")), api.ErrOrder)
		refusesBuild(t, append(numbered(62, 1, 0), l...), api.ErrOrder)
		// Where a form stands whole, the order must be right as well.
		refusesBuild(t, append(numbered(3, 1, 0), l...), api.ErrOrder)
	}
	if _, err := leaf.Build(append(numbered(3, 1, 0), put("a", 5, ""), put("a", 4, ""))); err != api.OK {
		t.Errorf("Build of what rises: %d", err)
	}
}

// asks holds versions, right ones and others, to look for among entries.
func asks(l []api.Entry) []api.Key {
	all := []api.Key{
		{},
		version("", math.MaxUint64, 255),
		version("\x00", 0, 0),
		version("a", 1, api.Put),
		version("k", 5, api.Range),
		version(text(64), 3, api.Put),
		version(text(300), 3, api.Put),
		version("\xff\xff", 0, 0),
		version(strings.Repeat("\xff", 200), 0, 0),
	}
	for _, e := range l {
		k := e.Key
		all = append(all, k,
			api.Key{User: k.User, Seq: k.Seq, Kind: 0}, api.Key{User: k.User, Seq: k.Seq, Kind: api.Delete},
			api.Key{User: k.User, Seq: k.Seq, Kind: api.Put}, api.Key{User: k.User, Seq: k.Seq, Kind: 255},
			api.Key{User: k.User, Seq: k.Seq + 1, Kind: 0}, api.Key{User: k.User, Seq: k.Seq - 1, Kind: 255},
			api.Key{User: k.User, Seq: math.MaxUint64, Kind: 255}, api.Key{User: k.User},
			ikey.Upto(k.User, api.MaxSeq), ikey.Upto(ikey.After(k.User), 0), ikey.Upto(k.User[:len(k.User)-1], 0))
	}
	return all
}

// finds asks for what stands about k, and holds it against the plainest search.
func finds(t *testing.T, p []byte, l []api.Entry, k api.Key) {
	t.Helper()
	at := 0
	for at < len(l) && ikey.Compare(l[at].Key, k) < 0 {
		at++
	}
	var from, before api.Entry
	if at < len(l) {
		from = l[at]
	}
	if at > 0 {
		before = l[at-1]
	}
	if e, ok, err := leaf.From(p, k); ok != (at < len(l)) || !alike(e, from) || err != api.OK {
		t.Fatalf("From(%v) of %d = %v, %t, %d, want %v", k, len(l), e, ok, err, from)
	}
	if e, ok, err := leaf.Before(p, k); ok != (at > 0) || !alike(e, before) || err != api.OK {
		t.Fatalf("Before(%v) of %d = %v, %t, %d, want %v", k, len(l), e, ok, err, before)
	}
}

func TestFromAndBefore(t *testing.T) {
	lists := [][]api.Entry{numbered(64, 2, 5), numbered(64, 64, 0), numbered(5, 1, 1)}
	for _, f := range forms() {
		lists = append(lists, f.l)
	}
	for _, l := range lists {
		p, err := leaf.Build(l)
		if err != api.OK {
			t.Fatal(err)
		}
		for _, k := range asks(l) {
			finds(t, p, l, k)
		}
	}
}

func TestFromAndBeforeOfNone(t *testing.T) {
	p := []byte("\x00\x00")
	for _, k := range asks(nil) {
		if e, ok, err := leaf.From(p, k); ok || !alike(e, api.Entry{}) || err != api.OK {
			t.Errorf("From(%v) = %v, %t, %d", k, e, ok, err)
		}
		if e, ok, err := leaf.Before(p, k); ok || !alike(e, api.Entry{}) || err != api.OK {
			t.Errorf("Before(%v) = %v, %t, %d", k, e, ok, err)
		}
	}
}

// refuses asks all that read for a leaf that is none.
func refuses(t *testing.T, p string) {
	t.Helper()
	if l, err := leaf.Read([]byte(p)); len(l) != 0 || err != api.ErrForm {
		t.Errorf("Read(%.200x) = %v, %d", p, l, err)
	}
	for _, k := range []api.Key{{}, version("b", 1, api.Put), version("\xff\xff", 0, 255)} {
		if e, ok, err := leaf.From([]byte(p), k); ok || !alike(e, api.Entry{}) || err != api.ErrForm {
			t.Errorf("From(%.200x, %v) = %v, %t, %d", p, k, e, ok, err)
		}
		if e, ok, err := leaf.Before([]byte(p), k); ok || !alike(e, api.Entry{}) || err != api.ErrForm {
			t.Errorf("Before(%.200x, %v) = %v, %t, %d", p, k, e, ok, err)
		}
	}
}

func TestReadOfNothing(t *testing.T) {
	if l, err := leaf.Read(nil); len(l) != 0 || err != api.ErrForm {
		t.Errorf("Read(nil) = %v, %d", l, err)
	}
	for _, p := range []string{"", "\x00", "\x01", "\x00\x00\x00", "\x00\x00\x00\x00", "\x00\x00\x01\x00", "\x01\x00", "\x00\x01", "\xff\xff", "\x00\x00\x02\x00"} {
		refuses(t, p)
	}
	refuses(t, strings.Repeat("\x00", 200))
	refuses(t, strings.Repeat("\xff", 200))
	refuses(t, strings.Repeat("\x00", 65535*2)+"\xff\xff")
	refuses(t, strings.Repeat("\x00", 65535*2-1)+"\xff\xff")
}

func TestReadOfWhatEndsTooEarlyOrTooLate(t *testing.T) {
	for _, f := range forms() {
		for size := range len(f.p) {
			refuses(t, f.p[:size])
		}
		for at := 1; at < min(len(f.p), 100); at++ {
			// What is left may be a leaf itself.
			checked(t, []byte(f.p[at:]))
		}
		refuses(t, f.p+"\x00")
		refuses(t, f.p+"\x01")
		refuses(t, "\x00"+f.p)
		refuses(t, f.p+text(70))
		refuses(t, f.p+f.p)
	}
}

func TestReadOfWrongPlaces(t *testing.T) {
	one := part(0, "a"+tail(1, 2), "x")
	for _, places := range [][]int{{}, {1}, {256}, {len(one)}, {0, 0}, {0, len(one)}, {len(one), 0}, {0xffff}} {
		refuses(t, one+foot(places...))
	}
	refuses(t, foot(0))
	refuses(t, foot(0, 0))
	body := stepsLeaf()[:len(stepsLeaf())-8]
	first := strings.Index(body, "\x00\x0a\x01ke")
	second := strings.Index(body, "\x00\x0a\x00kg")
	if body+foot(0, first, second) != stepsLeaf() {
		t.Fatal(first, second)
	}
	for _, places := range [][]int{
		{}, {0}, {0, first}, {first, second}, {0, second}, {0, second, first}, {second, first, 0},
		{0, first, second, 0}, {0, first, second, len(body)}, {0, 0, first, second}, {0, first + 1, second},
		{0, first, second + 256}, {0, first + 256, second}, {0, first - 1, second}, {0, first, first}, {first, first, second},
	} {
		refuses(t, body+foot(places...))
	}
	// As many places as there are, but another number of them is told.
	p := stepsLeaf()
	for _, count := range []string{"\x00\x00", "\x01\x00", "\x02\x00", "\x04\x00", "\x03\x01", "\x00\x03", "\xff\xff"} {
		refuses(t, p[:len(p)-2]+count)
	}
}

func TestReadOfWrongSharedBytes(t *testing.T) {
	a, b := "aa"+tail(5, 2), "ab"+tail(5, 2)
	for _, p := range []string{
		// The first form has bytes of one ahead.
		part(1, a, "x") + foot(0),
		part(2, a[2:], "x") + foot(0),
		// Fewer, or more, than are the same.
		part(0, a, "x") + part(0, b, "y") + foot(0),
		part(0, a, "x") + part(2, b[2:], "y") + foot(0),
		part(0, a, "x") + part(11, b, "y") + foot(0),
		part(0, a, "x") + part(240, b, "y") + foot(0),
		part(0, a, "x") + part(2, "aa"+tail(4, 2)[1:], "y") + foot(0),
		part(0, "a"+tail(5, 2), "") + part(1, tail(4, 2), "") + foot(0),
		// A form that is the one ahead, or ends with it.
		part(0, a, "x") + part(10, "", "y") + foot(0),
		part(0, a, "x") + part(9, a[9:], "y") + foot(0),
		part(0, a, "x") + part(9, "", "y") + foot(0),
		part(0, "", "") + foot(0),
		part(0, "", "x") + foot(0),
	} {
		refuses(t, p)
	}
	// A form that stands whole where it need not, and one that doesn't where it must.
	l := steps()
	body := ""
	for i, e := range l[:4] {
		whole := string(e.Key.User) + tail(e.Key.Seq, e.Key.Kind)
		body += part(min(i, 1), whole[min(i, 1):], string(e.Value))
	}
	fifth := "ke" + tail(9, 2)
	right := body + part(0, fifth, "4") + foot(0, len(body))
	if right != plain(l[:5]) {
		t.Fatal("the plain leaf is another")
	}
	refuses(t, body+part(1, fifth[1:], "4")+foot(0, len(body)))
	refuses(t, body+part(1, fifth[1:], "4")+foot(0))
	refuses(t, body+part(0, fifth, "4")+foot(0))
}

func TestReadOfWrongNumbers(t *testing.T) {
	a := "a" + tail(1, 2)
	for _, p := range []string{
		// Not all there.
		"\x00" + foot(0),
		"\x00\x09" + foot(0),
		"\x00\x09\x00" + foot(0),
		"\x00\x09\xf1" + foot(0),
		"\xf1" + foot(0),
		// In another form.
		"\xf1\x00\x09\x01" + a + "x" + foot(0),
		"\xfa\x00\x00\x00\x09\x01" + a + "x" + foot(0),
		"\x00\xfa\x00\x00\x09\x01" + a + "x" + foot(0),
		"\x00\x09\xfa\x00\x00\x01" + a + "x" + foot(0),
		"\x00\x09\xff\x00\x00\x00\x00\x00\x00\x00\x01" + a + "x" + foot(0),
		// Of more bytes than there are, and so many that a sum goes round.
		"\x00\x0b\x01" + a + "x" + foot(0),
		"\x00\x09\x02" + a + "x" + foot(0),
		"\x00\x0a\x01" + a + "x" + foot(0),
		"\x00\x08\x01" + a + "x" + foot(0),
		"\x00\x09\x00" + a + "x" + foot(0),
		"\x00\x09\xff\xff\xff\xff\xff\xff\xff\xff\xff" + a + "x" + foot(0),
		"\x00\x09\xff\xff\xff\xff\xff\xff\xff\xff\xf8" + a + "x" + foot(0),
		"\x00\xff\xff\xff\xff\xff\xff\xff\xff\xff\x01" + a + "x" + foot(0),
		"\x00\xff\xff\xff\xff\xff\xff\xff\xff\xf8\x09" + a + "x" + foot(0),
		"\x00\xff\x80\x00\x00\x00\x00\x00\x00\x00\xff\x80\x00\x00\x00\x00\x00\x00\x00" + a + "x" + foot(0),
		"\xff\xff\xff\xff\xff\xff\xff\xff\xff\x09\x01" + a + "x" + foot(0),
		"\xff\x80\x00\x00\x00\x00\x00\x00\x00\x09\x01" + a + "x" + foot(0),
	} {
		refuses(t, p)
	}
}

// Packed as they are, entries of which there is no leaf are none.
func TestReadOfEntriesThatAreNotRight(t *testing.T) {
	for _, l := range wrong() {
		for _, e := range l {
			// A greater Seq, or value, would be told as another one.
			if e.Key.Seq <= api.MaxSeq && len(e.Value) < 2000 && len(e.Key.User) < 2000 {
				refuses(t, plain([]api.Entry{e}))
				refuses(t, plain([]api.Entry{put("\x00", 1, ""), e, put("z", 1, "")}))
			}
		}
	}
	for _, l := range fallen() {
		refuses(t, plain(l))
		refuses(t, plain(append([]api.Entry{put("\x00", 1, "")}, l...)))
		refuses(t, plain(append(numbered(3, 1, 0), l...)))
		refuses(t, plain(append(slices.Clone(l), put("\xff", 1, ""))))
	}
	for kind := range 256 {
		p := []byte(plain([]api.Entry{{Key: version("a", 1, byte(kind))}}))
		l, err := leaf.Read(p)
		if right := kind == api.Put || kind == api.Delete; right != (err == api.OK) || right != (len(l) == 1) {
			t.Errorf("Kind %d: %v, %d", kind, l, err)
		}
	}
	for size := range 9 {
		refuses(t, part(0, tail(1, 2)[8-size:], "")+foot(0))
	}
}

func TestReadOfTooMany(t *testing.T) {
	refuses(t, plain(numbered(65, 1, 0)))
	refuses(t, plain(numbered(66, 3, 2)))
	refuses(t, plain(numbered(200, 1, 0)))
	refuses(t, strings.Repeat(part(0, "a"+tail(1, 2), ""), 65)+foot(make([]int, 17)...))
}

// Great ones that are no leaves are given up without going round in them.
func TestReadOfGreatOnes(t *testing.T) {
	junk := strings.Repeat("x", 1<<24)
	refuses(t, junk)
	refuses(t, junk+"\x00\x00")
	refuses(t, plain(numbered(64, 3, 9))+junk+"\x00\x00")
	refuses(t, plain(numbered(64, 3, 9))[:64*12]+junk+foot(make([]int, 16)...))
	// One value, and one form, of all there is.
	refuses(t, "\x00\x09\xfb\x01\x00\x00\x00a"+tail(1, 2)+junk+foot(0))
	refuses(t, "\x00\xfb\x01\x00\x00\x00\x00"+junk+foot(0))
}

// checked reads p; whatever is read has no other bytes than those that were read.
func checked(t *testing.T, p []byte) {
	t.Helper()
	l, err := leaf.Read(p)
	switch {
	case err == api.OK:
		if again, err := leaf.Build(l); !bytes.Equal(again, p) || plain(l) != string(p) || err != api.OK {
			t.Fatalf("Build(Read(% x)) = % x, %d", p, again, err)
		}
		for i := 1; i < len(l); i++ {
			if ikey.Compare(l[i-1].Key, l[i].Key) >= 0 {
				t.Fatalf("Read(% x) = %v", p, l)
			}
		}
	case err != api.ErrForm || len(l) != 0:
		t.Fatalf("Read(% x) = %v, %d", p, l, err)
	}
	for _, k := range []api.Key{{}, version("ab", 3, api.Put), version("\xff", 0, 0)} {
		if err == api.OK {
			finds(t, p, l, k)
		} else if e, ok, other := leaf.From(p, k); ok || !alike(e, api.Entry{}) || other != err {
			t.Fatalf("From(% x) = %v, %t, %d", p, e, ok, other)
		}
	}
}

func TestReadOfChangedBytes(t *testing.T) {
	for _, f := range forms() {
		if len(f.p) > 200 {
			continue
		}
		for i := range f.p {
			for b := range 256 {
				p := []byte(f.p)
				p[i] = byte(b)
				checked(t, p)
			}
			checked(t, []byte(f.p[:i]+f.p[i+1:]))
			checked(t, []byte(f.p[:i]+"\x00"+f.p[i:]))
			checked(t, []byte(f.p[:i]+f.p[i:i+1]+f.p[i:]))
		}
	}
}

// roller makes numbers that look as if they were drawn, but are always the same.
func roller() func(n int) int {
	state := uint64(1)
	return func(n int) int {
		state = state*6364136223846793005 + 1442695040888963407
		return int((state >> 33) % uint64(n))
	}
}

// drawn makes entries that rise, of few bytes and numbers, so that they have much in common.
func drawn(roll func(int) int) []api.Entry {
	var l []api.Entry
	for range roll(70) {
		user := make([]byte, 1+roll(4))
		for i := range user {
			user[i] = byte(roll(3))
		}
		k := api.Key{User: user, Seq: uint64(roll(3)) << (8 * roll(7)), Kind: byte(1 + roll(2))}
		l = append(l, api.Entry{Key: k, Value: []byte(text(roll(6)))})
	}
	order := func(a, b api.Entry) int { return ikey.Compare(a.Key, b.Key) }
	slices.SortStableFunc(l, order)
	l = slices.CompactFunc(l, func(a, b api.Entry) bool { return order(a, b) == 0 })
	return l[:min(len(l), 64)]
}

func TestLongRuns(t *testing.T) {
	roll := roller()
	for range 300 {
		l := drawn(roll)
		p, err := leaf.Build(l)
		if string(p) != plain(l) || err != api.OK {
			t.Fatalf("Build(%v) = % x, %d", l, p, err)
		}
		if again, err := leaf.Read(p); !slices.EqualFunc(again, l, alike) || err != api.OK {
			t.Fatalf("Read(% x) = %v, %d", p, again, err)
		}
		for range 20 {
			k := api.Key{User: []byte{byte(roll(3)), byte(roll(3))}[:roll(3)], Seq: uint64(roll(4)) << (8 * roll(8)), Kind: byte(roll(4))}
			finds(t, p, l, k)
		}
		for range 50 {
			q := bytes.Clone(p)
			for range 1 + roll(3) {
				q[roll(len(q))] = byte(roll(256))
			}
			checked(t, q)
		}
	}
}

// roomy copies p in front of spare room whose bytes are known.
func roomy(p string) []byte {
	q := bytes.Repeat([]byte{0xa5}, len(p)+16)
	copy(q, p)
	return q[:len(p)]
}

// untouched tells whether q, which roomy made of p, is as it was.
func untouched(q []byte, p string) bool {
	return bytes.Equal(q[:len(p)+16], append([]byte(p), bytes.Repeat([]byte{0xa5}, 16)...))
}

// spoil writes over bytes and their spare room.
func spoil(p []byte) {
	p = p[:cap(p)]
	for i := range p {
		p[i] = 0x5a
	}
}

// roomyEntries makes the entries of steps in roomy memory, with one more in the list's spare room.
func roomyEntries() []api.Entry {
	var l []api.Entry
	for _, e := range append(steps(), put("spare", 1, "spare")) {
		k := api.Key{User: roomy(string(e.Key.User)), Seq: e.Key.Seq, Kind: e.Key.Kind}
		l = append(l, api.Entry{Key: k, Value: roomy(string(e.Value))})
	}
	return l[:len(l)-1]
}

func untouchedEntries(l []api.Entry) bool {
	was := append(steps(), put("spare", 1, "spare"))
	for i, e := range l[:len(was)] {
		if !alike(e, was[i]) || !untouched(e.Key.User, string(was[i].Key.User)) || !untouched(e.Value, string(was[i].Value)) {
			return false
		}
	}
	return len(l) == len(was)-1
}

func TestBuildMemory(t *testing.T) {
	l := roomyEntries()
	first, _ := leaf.Build(l)
	second, _ := leaf.Build(l)
	spoil(first)
	if !untouchedEntries(l) {
		t.Errorf("an answer shares memory: %v", l)
	}
	for _, e := range l {
		spoil(e.Key.User)
		spoil(e.Value)
	}
	if string(second) != stepsLeaf() {
		t.Errorf("an answer follows its argument, or an earlier one: % x", second)
	}
	none, _ := leaf.Build(nil)
	spoil(none)
	if p, err := leaf.Build(nil); string(p) != "\x00\x00" || err != api.OK {
		t.Errorf("Build(nil) = % x, %d", p, err)
	}
}

func TestReadMemory(t *testing.T) {
	p := roomy(stepsLeaf())
	first, _ := leaf.Read(p)
	second, _ := leaf.Read(p)
	for _, e := range first {
		spoil(e.Key.User)
		spoil(e.Value)
	}
	clear(first[:cap(first)])
	if !untouched(p, stepsLeaf()) {
		t.Errorf("an answer shares memory: % x", p)
	}
	spoil(p)
	if !slices.EqualFunc(second, steps(), alike) {
		t.Errorf("an answer follows its argument, or an earlier one: %v", second)
	}
}

// lists tells where the lists of entries are.
func lists(l []api.Entry) []*[]byte {
	var all []*[]byte
	for i := range l {
		all = append(all, &l[i].Key.User, &l[i].Value)
	}
	return all
}

func TestListsOfOneAnswerAreApart(t *testing.T) {
	for i := range lists(steps()) {
		l, _ := leaf.Read([]byte(stepsLeaf()))
		at := lists(l)[i]
		spoil(*at)
		*at = *lists(steps())[i]
		if !slices.EqualFunc(l, steps(), alike) {
			t.Errorf("list %d shares memory: %v", i, l)
		}
	}
}

func TestFromAndBeforeMemory(t *testing.T) {
	p := roomy(stepsLeaf())
	k := api.Key{User: roomy("kb"), Seq: 9, Kind: api.Put}
	for range 2 {
		from, _, _ := leaf.From(p, k)
		before, _, _ := leaf.Before(p, k)
		if !alike(from, steps()[1]) || !alike(before, steps()[0]) {
			t.Fatalf("From = %v, Before = %v", from, before)
		}
		spoil(from.Key.User)
		if string(from.Value) != "1" {
			t.Errorf("User and Value share memory: %v", from)
		}
		spoil(from.Value)
		spoil(before.Value)
		if string(before.Key.User) != "ka" {
			t.Errorf("User and Value share memory: %v", before)
		}
		spoil(before.Key.User)
		if !untouched(p, stepsLeaf()) || !untouched(k.User, "kb") {
			t.Fatalf("an answer shares memory: % x, % x", p, k.User)
		}
	}
	from, _, _ := leaf.From(p, k)
	before, _, _ := leaf.Before(p, k)
	spoil(p)
	spoil(k.User)
	if !alike(from, steps()[1]) || !alike(before, steps()[0]) {
		t.Errorf("an answer follows its argument: %v, %v", from, before)
	}
}
