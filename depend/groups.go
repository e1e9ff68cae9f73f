package depend

// groups returns the groups of the families of so many constants. (What is below itself is a family.)
func groups(count int, leads *matrix) [][]int {
	var list [][]int
	isPlaced := make([]bool, count)
	var placeNext func()
	placeNext = func() {
	families:
		for family := range count {
			if isPlaced[family] || !leads[family][family] {
				continue
			}
			for other := range count {
				isLower := leads[other][family] && !leads[family][other]
				if isLower && !isPlaced[other] {
					continue families
				}
			}
			group := numbers(count, func(other int) bool { return leads[other][family] && leads[family][other] })
			for _, other := range group {
				isPlaced[other] = true
			}
			list = append(list, group)
			placeNext()
			break families
		}
	}
	placeNext()
	return list
}
