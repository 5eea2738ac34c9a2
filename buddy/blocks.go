package buddy

import "polder/api"

// validOrder reports whether an allocator may have a range of the order.
func validOrder(order int) bool {
	return order >= 0 && order <= api.MaxOrder
}

// pages returns how many pages a block of the order has.
func pages(order int) int {
	return 1 << order
}

// around returns the block of the order that has a page.
func around(page, order int) api.BuBlock {
	return api.BuBlock{Page: page - page%pages(order), Order: order}
}

// holds reports whether a block has a page.
func holds(x api.BuBlock, page int) bool {
	return around(page, x.Order) == x
}

// halves returns the two blocks of half the size in a block of at least two pages.
func halves(x api.BuBlock) [2]api.BuBlock {
	low := api.BuBlock{Page: x.Page, Order: x.Order - 1}
	return [2]api.BuBlock{low, other(low)}
}

// other returns the block that is together with x a block of twice the size.
func other(x api.BuBlock) api.BuBlock {
	return api.BuBlock{Page: x.Page ^ pages(x.Order), Order: x.Order}
}
