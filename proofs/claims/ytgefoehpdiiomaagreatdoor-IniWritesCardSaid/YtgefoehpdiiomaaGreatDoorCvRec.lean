/- csv: what is wrong with a record. Conditions: texts of ASCII bytes; each row ahead has a field. -/
import Derived.Test.YtgefoehpdiiomaaGreatDoorMwCvFlds
import Derived.Outline
namespace Go.Proofs.YtgefoehpdiiomaaGreatDoor.Cv
open Go.RowKit Go.Proofs.YtgefoehpdiiomaaGreatDoor.Jd Go.Proofs.YtgefoehpdiiomaaGreatDoor.Li
set_option maxRecDepth 100000

end Go.Proofs.YtgefoehpdiiomaaGreatDoor.Cv
