/- The contracts of num.Do and of the laws' 'do': for every operation and any two numbers they answer what valF, errF and doF say, and leave the world as it is. -/
import Derived.Test.YteoccfmhpakplaaGreatDoorBase
import Derived.Test.YteoccfmhpakplaaGreatDoorRows
import Derived.Test.YteoccfmhpakplaaGreatDoorNumMath
import Derived.WalkKit
import Derived.WalkSpells
import Derived.WalkLawsBesides
import Derived.Lib.Hide
namespace Go.Proofs.YteoccfmhpakplaaGreatDoor
set_option maxRecDepth 20000
open Go.RowKit





end Go.Proofs.YteoccfmhpakplaaGreatDoor
