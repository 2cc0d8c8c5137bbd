/- CutZone, in the program and in the model together. -/
import Derived.Test.YtmjdldeoplopkaaZi5
import Derived.Test.YtmjdldeoplopkaaZs4
