package mark

import (
	"slices"

	"pritchel/api"
)

// check tests words of at most so many letters below q: first whether any is too long.
func check(most, q int, words ...string) api.Errno {
	for _, word := range words {
		if len(word) > most {
			return api.ErrLong
		}
	}
	for _, word := range words {
		if !isBelow(word, q) {
			return api.ErrForm
		}
	}
	return api.OK
}

// isBelow reports whether all letters of a word are below q.
func isBelow(word string, q int) bool {
	for i := range len(word) {
		if letter := int(word[i]) - '0'; letter < 0 || letter >= q {
			return false
		}
	}
	return true
}

// joined puts words together.
func joined(words ...string) string {
	all := ""
	for _, word := range words {
		all += word
	}
	return all
}

// single returns the word of one letter.
func single(letter int) string {
	return "0123"[letter : letter+1]
}

// sumOf returns the sum of the numbers of the letters 1.
func sumOf(word string) int {
	sum := 0
	for i := range len(word) {
		if word[i] == '1' {
			sum += i + 1
		}
	}
	return sum
}

func digitSum(digits string) int {
	sum := 0
	for i := range len(digits) {
		sum += int(digits[i] - '0')
	}
	return sum
}

func steps(digits string) string {
	up := ""
	for i := 1; i < len(digits); i++ {
		if digits[i] >= digits[i-1] {
			up = joined(up, "1")
		} else {
			up = joined(up, "0")
		}
	}
	return up
}

// allWords returns all words of n letters below q, in byte order.
func allWords(n, q int) []string {
	list := []string{""}
	for range n {
		var next []string
		for _, word := range list {
			for letter := range q {
				next = append(next, joined(word, single(letter)))
			}
		}
		list = next
	}
	return list
}

// shorter returns the words that come of a word by taking away one letter, each once, in byte order.
func shorter(word string) []string {
	var list []string
	for i := range len(word) {
		list = append(list, joined(word[:i], word[i+1:]))
	}
	return inOrder(list)
}

// longer returns the words that come of a word by putting in one letter below q, each once, in byte order.
func longer(word string, q int) []string {
	var list []string
	for i := range len(word) + 1 {
		for letter := range q {
			list = append(list, joined(word[:i], single(letter), word[i:]))
		}
	}
	return inOrder(list)
}

func inOrder(list []string) []string {
	slices.Sort(list)
	return slices.Compact(list)
}
