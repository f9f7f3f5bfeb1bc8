/- Nothing of the shelf is met here but the library that it brings. -/
import Derived.Test.YtnimdbjbkoggdaaProg
import Derived.Shelf.Strings.OnBuilder
