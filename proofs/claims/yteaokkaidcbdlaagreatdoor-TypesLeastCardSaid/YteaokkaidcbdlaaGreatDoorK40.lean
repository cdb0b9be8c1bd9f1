/- Part 40 of 53: the texts Vi, one behind the other. -/
import Derived.Test.YteaokkaidcbdlaaGreatDoorK39
import Derived.Test.YteaokkaidcbdlaaGreatDoorRows
import Derived.Handed
import Derived.HandedShaped
import Derived.ProofKit
import Derived.OpenShut
import Derived.LaidMore
import Derived.Lay
import Derived.SevenTiedAt
import Derived.Stop.Joined
import Derived.Lib.LaidU8
import Derived.Lib.LaidTab
import Derived.KernelRfl
import Derived.Carry
namespace Go.Proofs.YteaokkaidcbdlaaGreatDoor
open Go Go.RowKit Go.Shelf
theorem ltf_inPlace : (Rows.typesLeastRow.inPlace == Tryz.prog.inPlace 11) = true := by kernel_rfl
theorem ltf_unfollowed : (Rows.typesLeastRow.unfollowed == Tryz.prog.unfollowed 11) = true := by kernel_rfl
theorem ltf_recurses : (Rows.typesLeastRow.recurses == Tryz.prog.recurses 11) = true := by kernel_rfl
theorem ltf_named : (Rows.typesLeastRow.named == Tryz.prog.varsNamed 11) = true := by kernel_rfl
theorem ltf_wf : Rows.typesLeastRow.wf (OpenSpec.ofChange Rows.typesLeastSpec) = true := by kernel_rfl
theorem ltf_maps : mapsRowed Tryz.prog = true := by kernel_rfl
theorem ltf_plain : (Rows.typesLeastRow.plainKeys == Tryz.prog.plainKeys) = true := by kernel_rfl
theorem ltf_heard : Tryz.prog.stopsHeard = true := by kernel_rfl
theorem ltf_enter : Tryz.prog.mayEnter = true := by kernel_rfl
theorem ltf_lifts : (Rows.typesLeastRow.lifted == Tryz.prog.liftsFinal) = true := by kernel_rfl
theorem ltf_make : (Tryz.prog.make == some Rows.typesLeastRow.make) = true := by kernel_rfl
theorem lt_joined : joinedFacts Tryz.prog 11 Tryz.f11 Rows.typesLeastSpec Rows.typesLeastRow = true := by
  unfold joinedFacts
  rw [ltf_wf, laid_out, ltf_maps, ltf_inPlace, ltf_unfollowed, ltf_recurses, ltf_named, ltf_plain, ltf_heard, ltf_enter, ltf_lifts, ltf_make]
  kernel_rfl
end Go.Proofs.YteaokkaidcbdlaaGreatDoor

