/- Zones: the program's and the model's first functions together. -/
import Derived.Test.YtmjdldeoplopkaaZi
import Derived.Test.YtmjdldeoplopkaaZi3
import Derived.Test.YtmjdldeoplopkaaZs
