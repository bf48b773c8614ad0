/- csv: what is wrong with a record. Conditions: texts of ASCII bytes; each row ahead has a field. -/
import Derived.Test.YtapgaglkkgbgkaaGreatDoorMwCvFlds
import Derived.Outline
namespace Go.Proofs.YtapgaglkkgbgkaaGreatDoor.Cv
open Go.RowKit Go.Proofs.YtapgaglkkgbgkaaGreatDoor.Jd Go.Proofs.YtapgaglkkgbgkaaGreatDoor.Li
set_option maxRecDepth 100000

end Go.Proofs.YtapgaglkkgbgkaaGreatDoor.Cv
