/- The program's shapes: all that the laws want of them. -/
import Derived.Test.YtfkfjkhikgnnaaaIs8
import Derived.Test.YtfkfjkhikgnnaaaIs9
