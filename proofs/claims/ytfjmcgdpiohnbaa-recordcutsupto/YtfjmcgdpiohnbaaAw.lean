/- Nothing of its own: layer 9's texts stand on the texts of layer 1 that speak of numbers as bytes. -/
import Derived.Test.YtfjmcgdpiohnbaaVa
