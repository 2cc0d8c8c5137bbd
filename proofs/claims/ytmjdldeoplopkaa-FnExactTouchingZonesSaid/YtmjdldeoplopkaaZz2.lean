/- TouchingZones, in the program and in the model together. -/
import Derived.Test.YtmjdldeoplopkaaZi4
import Derived.Test.YtmjdldeoplopkaaZs5
