/- Itoa is laid with the rest. -/
import Derived.Test.YthacjeeafnblmaaGreatDoorLay
