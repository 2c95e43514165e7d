/- This dump has no maps.Keys. -/
import Derived.Test.YthacjeeafnblmaaDoorLay
