package produce

import (
	"slices"

	"paperchase/api"
)

// Overlay puts new cells into a table.
func Overlay(base, over [][]string) ([][]string, api.Errno) {
	columns, rows, e := checkTables(base, over)
	if e != api.OK {
		return nil, e
	}
	heads := slices.Clone(base[0])
	var places []int // of the columns of over in the result
	for _, head := range over[0] {
		place, ok := columns[head]
		if !ok {
			place = len(heads)
			heads = append(heads, head)
		}
		places = append(places, place)
	}
	if len(heads) > maxColumns {
		return nil, api.ErrLarge
	}
	all := [][]string{heads}
	for _, row := range base[1:] {
		wide := make([]string, len(heads))
		copy(wide, row)
		all = append(all, wide)
	}
	for _, row := range over[1:] {
		target := all[rows[row[0]]]
		for i, cell := range row {
			target[places[i]] = cell
		}
	}
	return all, api.OK
}

// checkTables validates two tables, and returns the numbers of the columns of base by their heads, and of its rows by their keys.
func checkTables(base, over [][]string) (columns, rows map[string]int, e api.Errno) {
	if e := checkRows(base); e != api.OK {
		return nil, nil, e
	}
	if e := checkRows(over); e != api.OK {
		return nil, nil, e
	}
	if len(base) == 0 || len(over) == 0 {
		return nil, nil, api.ErrNone
	}
	columns, rows, apart := index(base)
	_, keys, overApart := index(over)
	switch {
	case !apart || !overApart:
		return nil, nil, api.ErrTwice
	case base[0][0] != over[0][0]:
		return nil, nil, api.ErrForm
	}
	for key := range keys {
		if _, ok := rows[key]; !ok {
			return nil, nil, api.ErrNone
		}
	}
	return columns, rows, api.OK
}

// index returns the numbers of the columns and of the rows of a table by their heads and keys, and whether all of these are different.
func index(table [][]string) (columns, rows map[string]int, apart bool) {
	columns, rows = map[string]int{}, map[string]int{}
	for i, head := range table[0] {
		columns[head] = i
	}
	for i, row := range table[1:] {
		rows[row[0]] = i + 1
	}
	return columns, rows, len(columns) == len(table[0]) && len(rows) == len(table)-1
}
