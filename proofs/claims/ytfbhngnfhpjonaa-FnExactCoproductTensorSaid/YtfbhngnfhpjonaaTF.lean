/- What functions of the program return, as walks over their operations; no statement of the seat is proved here. -/
import Derived.Test.YtfbhngnfhpjonaaG12
import Derived.Test.YtfbhngnfhpjonaaSw34
set_option linter.unusedVariables false
set_option linter.unusedSimpArgs false
namespace Go.Proofs.Ytfbhngnfhpjonaa
open Go Go.RowKit Go.Sw
open Classical

end Go.Proofs.Ytfbhngnfhpjonaa
