package life_test

import (
	"slices"
	"strconv"
	"testing"

	"keyloft/api"
	"keyloft/life"
	"keyloft/value"
)

// prints: Print answers just these four numbers, a value of layer 7, and it is parsed to the life again.
func prints(t *testing.T, l life.Life, want ...any) {
	t.Helper()
	list, e := life.Print(l)
	if e != api.OK || !slices.Equal(list, want) {
		t.Errorf("%+v: %d, %v, not %v", l, e, list, want)
	}
	bytes, e := value.Print(list)
	v, f := value.Parse(bytes)
	if e != api.OK || f != api.OK {
		t.Errorf("%v is no value: %d, %d", list, e, f)
	}
	parses(t, v, l)
}

// parses: Parse answers the life.
func parses(t *testing.T, v any, want life.Life) {
	t.Helper()
	if l, e := life.Parse(v); e != api.OK || l != want {
		t.Errorf("%v: %d, %+v, not %+v", v, e, l, want)
	}
}

// parsesNot: Parse answers ErrForm, and no life.
func parsesNot(t *testing.T, what string, v any) {
	t.Helper()
	if l, e := life.Parse(v); e != api.ErrForm || l != (life.Life{}) {
		t.Errorf("%s: %d, %+v", what, e, l)
	}
}

// P14.2: lives' lists, and back.
func TestLists(t *testing.T) {
	prints(t, life.New(), 1, 0, 0, 1)
	prints(t, life.Life{State: 2, Expires: 9, Versions: 5}, 2, 0, 9, 5)
	prints(t, life.Life{State: 3, Deadline: 12, Expires: 100, Versions: 4}, 3, 12, 100, 4)
	prints(t, life.Life{State: 3, Deadline: latest, Expires: latest, Versions: 8}, 3, 1<<40, 1<<40, 8)
	prints(t, life.Life{State: 4, Versions: 8}, 4, 0, 0, 8)
}

// P14.2: all right lives about the edges are printed and parsed.
func TestAllLists(t *testing.T) {
	for _, l := range rightLives() {
		prints(t, l, l.State, l.Deadline, l.Expires, l.Versions)
	}
}

// P14.2: what isn't right is neither printed, nor parsed from its list.
func TestWrongLists(t *testing.T) {
	for _, l := range wrongLives() {
		if list, e := life.Print(l); e != api.ErrForm || len(list) != 0 {
			t.Errorf("%+v: %d, %v", l, e, list)
		}
		parsesNot(t, "not right", []any{l.State, l.Deadline, l.Expires, l.Versions})
	}
}

// P14.2: any four numbers, by the words.
func TestAnyNumbers(t *testing.T) {
	draw := mixer(2)
	numbers := anyNumbers()
	times := map[bool]int{}
	for range 200000 {
		l := life.Life{State: draw(6), Deadline: numbers[draw(len(numbers))], Expires: numbers[draw(len(numbers))], Versions: draw(11)}
		if draw(2) == 0 {
			l.Deadline = 0
		}
		list := []any{l.State, l.Deadline, l.Expires, l.Versions}
		if rightOf(l) {
			parses(t, list, l)
		} else {
			parsesNot(t, "drawn", list)
		}
		times[rightOf(l)]++
	}
	if times[true] < 1000 || times[false] < 1000 {
		t.Error(times)
	}
}

// P14.2: what is no list of four.
func TestNoLists(t *testing.T) {
	whole := []any{1, 0, 0, 1}
	type list []any
	for _, v := range []any{nil, 0, 1, "", "x", true, false, 1.5, life.New(), &whole, list(whole), [4]any(whole), []int{1, 0, 0, 1}, []string{"1", "0", "0", "1"}, map[int]int{}, func() {}, struct{}{}, error(nil), api.OK} {
		parsesNot(t, "no list", v)
	}
	bytes, _ := value.Print(whole)
	parsesNot(t, "a list's bytes", bytes)
	for n := range 4 {
		parsesNot(t, strconv.Itoa(n)+" values", whole[:n])
		parsesNot(t, strconv.Itoa(n)+" values, of the end", whole[4-n:])
		parsesNot(t, "one more", slices.Insert(slices.Clone(whole), n, whole[n]))
	}
	for _, more := range []any{nil, 0, 1, "", false, []any{}} {
		parsesNot(t, "one more", append(slices.Clone(whole), more))
		parsesNot(t, "one more ahead", append([]any{more}, whole...))
	}
	parsesNot(t, "a list in a list", []any{whole})
	parsesNot(t, "four lists", []any{whole, whole, whole, whole})
	parsesNot(t, "a nil list", []any(nil))
	parses(t, whole, life.New())
}

// P14.2: a value of another type at each place, also such as look like a right number.
func TestOtherTypes(t *testing.T) {
	type number int
	for place := range 4 {
		for _, whole := range [][]any{{1, 0, 0, 1}, {3, 1, 1, 1}} {
			for _, v := range []any{
				nil, "", "0", "1", "\x01", false, true, []any{}, []any(nil), []any{whole[place]}, whole, 0.0, 1.0, int64(1), int64(0), int32(1), uint(1), uint8(1), 'b', number(1), number(0),
				[]byte{1}, []int{1}, map[string]any{}, func() {}, &whole[place], &whole, struct{}{}, api.OK, api.ErrRange, life.New(), complex(1, 0), uintptr(1),
			} {
				l := slices.Clone(whole)
				l[place] = v
				parsesNot(t, "at "+strconv.Itoa(place), l)
			}
		}
	}
}

// P14.2: a list that has itself in it is no life's, and Parse ends.
func TestListInItself(t *testing.T) {
	for place := range 4 {
		l := []any{1, 0, 0, 1}
		l[place] = l
		parsesNot(t, "in itself", l)
	}
}

// P14.2: lists are new memory, and what is parsed isn't changed, its spare room neither.
func TestListsAreNew(t *testing.T) {
	room := []any{3, 12, 100, 4, "more"}
	one, _ := life.Print(life.New())
	two, _ := life.Print(life.New())
	clear(one)
	_ = append(one[:0], 4, 3, 2, 1)
	parses(t, two, life.New())
	prints(t, life.New(), 1, 0, 0, 1)
	parses(t, room[:4], life.Life{State: 3, Deadline: 12, Expires: 100, Versions: 4})
	parsesNot(t, "three of it", room[:3])
	if !slices.Equal(room, []any{3, 12, 100, 4, "more"}) {
		t.Error(room)
	}
}
