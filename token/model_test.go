package token

import (
	"fmt"
	"math/big"
	"regexp"
	"strconv"
	"strings"

	"gristmill/api"
)

// The chapter in other words: nothing here calls the package.

var (
	skips   = regexp.MustCompile(`^(\x20|#[^\x0a]*)`)
	names   = regexp.MustCompile(`^[abcdefghijklmnopqrstuvwxyz]+`)
	numbers = regexp.MustCompile(`^-?[0123456789]+`)
	texts   = regexp.MustCompile(`^\x22([^\x00-\x1f\x22\x5c]|\x5c\x22|\x5c\x5c|\x5cx[0123456789abcdef]{2})*\x22`)
	escapes = regexp.MustCompile(`\x5c(\x22|\x5c|x..)`)
)

func tokens(s string) (l []api.Tok, at int, e api.Errno) {
	for at < len(s) {
		if skipped := skips.FindString(s[at:]); skipped != "" {
			at += len(skipped)
			continue
		}
		t, size, e := first(s[at:])
		if e != api.OK {
			return nil, at, e
		}
		if len(l) == 65536 {
			return nil, at, api.ErrMany
		}
		t.At = at
		l = append(l, t)
		at += size
	}
	return l, len(s), api.OK
}

// first returns the token at the beginning of s, and how many bytes it has.
func first(s string) (t api.Tok, size int, e api.Errno) {
	if kind := strings.Index("()??\n", s[:1]) + 1; kind > 0 && s[0] != '?' {
		return api.Tok{Kind: uint8(kind)}, 1, api.OK
	}
	if m := names.FindString(s); m != "" {
		return api.Tok{Kind: 3, Name: m}, len(m), api.OK
	}
	if m := numbers.FindString(s); m != "" {
		n, _ := new(big.Int).SetString(m, 10)
		if !n.IsInt64() {
			return api.Tok{}, 0, api.ErrRange
		}
		return api.Tok{Kind: 4, Val: api.Val{Int: int(n.Int64())}}, len(m), api.OK
	}
	m := texts.FindString(s)
	if m == "" {
		return api.Tok{}, 0, api.ErrForm
	}
	plain := escapes.ReplaceAllStringFunc(m[1:len(m)-1], unescaped)
	if len(plain) > 65536 {
		return api.Tok{}, 0, api.ErrLong
	}
	return api.Tok{Kind: 4, Val: api.Val{Kind: 1, Text: plain}}, len(m), api.OK
}

func unescaped(escape string) string {
	if len(escape) == 2 {
		return escape[1:]
	}
	n, err := strconv.ParseUint(escape[2:], 16, 8)
	if err != nil {
		panic(err)
	}
	return string([]byte{byte(n)})
}

// lines begins a line at each token that has none of its line ahead of it.
func lines(l []api.Tok) [][]api.Tok {
	var all [][]api.Tok
	for i, t := range l {
		if t.Kind == 5 {
			continue
		}
		if i == 0 || l[i-1].Kind == 5 {
			all = append(all, nil)
		}
		all[len(all)-1] = append(all[len(all)-1], t)
	}
	return all
}

// told is a list as a failed test tells it.
func told(l []api.Tok) string {
	s := fmt.Sprintf("%d tokens:", len(l))
	for _, t := range l {
		if len(s) > 400 {
			return s + " .."
		}
		s += fmt.Sprintf(" {%d %.40q {%d %d %.40q} %d}", t.Kind, t.Name, t.Val.Kind, t.Val.Int, t.Val.Text, t.At)
	}
	return s
}
