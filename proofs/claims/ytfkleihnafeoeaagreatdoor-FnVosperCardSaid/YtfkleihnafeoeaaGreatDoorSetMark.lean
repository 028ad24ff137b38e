/- Rows of the law's own that are marked and held, beside what the law reads. -/
import Derived.Test.YtfkleihnafeoeaaGreatDoorLstSpec
import Derived.Test.YtfkleihnafeoeaaGreatDoorMark
