/- Part 35 of 53: the texts Zh, one behind the other. -/
import Derived.Test.YteaokkaidcbdlaaGreatDoorT34
import Derived.Test.YteaokkaidcbdlaaGreatDoorRows
import Derived.Handed
import Derived.HandedShaped
import Derived.ProofKit
import Derived.OpenShut
import Derived.LaidMore
import Derived.Lay
import Derived.SevenTiedAt
import Derived.Stop.Joined
import Derived.Lib.LaidU8
import Derived.Lib.LaidTab
import Derived.KernelRfl
import Derived.Carry
namespace Go.Proofs.YteaokkaidcbdlaaGreatDoor
open Go Go.RowKit Go.Shelf
theorem eqf_inPlace : (Rows.typesEqualRow.inPlace == Tryz.prog.inPlace 4) = true := by kernel_rfl
theorem eqf_unfollowed : (Rows.typesEqualRow.unfollowed == Tryz.prog.unfollowed 4) = true := by kernel_rfl
theorem eqf_recurses : (Rows.typesEqualRow.recurses == Tryz.prog.recurses 4) = true := by kernel_rfl
theorem eqf_named : (Rows.typesEqualRow.named == Tryz.prog.varsNamed 4) = true := by kernel_rfl
theorem eqf_wf : Rows.typesEqualRow.wf (OpenSpec.ofChange Rows.typesEqualSpec) = true := by kernel_rfl
theorem eqf_maps : mapsRowed Tryz.prog = true := by kernel_rfl
theorem eqf_plain : (Rows.typesEqualRow.plainKeys == Tryz.prog.plainKeys) = true := by kernel_rfl
theorem eqf_heard : Tryz.prog.stopsHeard = true := by kernel_rfl
theorem eqf_enter : Tryz.prog.mayEnter = true := by kernel_rfl
theorem eqf_lifts : (Rows.typesEqualRow.lifted == Tryz.prog.liftsFinal) = true := by kernel_rfl
theorem eqf_make : (Tryz.prog.make == some Rows.typesEqualRow.make) = true := by kernel_rfl
theorem eq_joined : joinedFacts Tryz.prog 4 Tryz.f4 Rows.typesEqualSpec Rows.typesEqualRow = true := by
  unfold joinedFacts
  rw [eqf_wf, laid_out, eqf_maps, eqf_inPlace, eqf_unfollowed, eqf_recurses, eqf_named, eqf_plain, eqf_heard, eqf_enter, eqf_lifts, eqf_make]
  kernel_rfl
end Go.Proofs.YteaokkaidcbdlaaGreatDoor

