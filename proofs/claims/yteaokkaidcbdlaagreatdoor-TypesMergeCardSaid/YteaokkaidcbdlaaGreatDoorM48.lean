/- Part 48 of 53: the texts Vl, one behind the other. -/
import Derived.Test.YteaokkaidcbdlaaGreatDoorM40
import Derived.Test.YteaokkaidcbdlaaGreatDoorM8
import Derived.Test.YteaokkaidcbdlaaGreatDoorM35
import Derived.Test.YteaokkaidcbdlaaGreatDoorM16
import Derived.Test.YteaokkaidcbdlaaGreatDoorM38
namespace Go.Proofs.YteaokkaidcbdlaaGreatDoor
open Go Go.RowKit Go.Shelf
end Go.Proofs.YteaokkaidcbdlaaGreatDoor

