/- TypesTold holds of every graph, numbers and way, whatever the memory: the tied card (the variables that it lists read as the program's own text lays them). -/
import Derived.Test.YteaokkaidcbdlaaGreatDoorJ39
import Derived.Test.YteaokkaidcbdlaaGreatDoorJ52
import Derived.Test.YteaokkaidcbdlaaGreatDoorCards
import Derived.Test.YteaokkaidcbdlaaGreatDoorTie
import Derived.Handed
import Derived.HandedShaped
import Derived.ProofKit
import Derived.OpenShut
import Derived.LaidMore
import Derived.Lay
import Derived.SevenTiedAt
import Derived.Stop.Joined
import Derived.Lib.LaidU8
import Derived.Lib.LaidTab
import Derived.KernelRfl
import Derived.Carry
namespace Go.Proofs.YteaokkaidcbdlaaGreatDoor
open Go Go.RowKit Go.Shelf
open Go.ChangeShapes Go.WideShapes Go.ChangeAt
open Go.ChangeMaps (open_string shut_string)
set_option maxRecDepth 100000
theorem tt_named : Tryz.prog.funcNamed "trestle/trestlelaw03.TypesTold" = some 10 := by kernel_rfl
theorem typesTold_holds : Rows.TypesToldSaid :=
  OpenClaim.holds_of_wide 10 Tryz.f10 rfl rfl rfl rfl rfl rfl rfl ⟨rfl, rfl, rfl, rfl, rfl⟩ rfl rfl rfl rfl rfl tt_named Tryz.func10 tt_joined
    (of_decide_eq_true (by kernel_rfl)) (by unfold Func.isWrapper; first | (rw [if_pos (by decide +kernel)]; kernel_rfl) | (rw [if_neg (by decide +kernel)]; exact ⟨rfl, rfl⟩))
    (fun os started H enc _ => typesTold_lifted os started H enc)
theorem typesTold_card_holds : Rows.TypesToldCardSaid :=
  Claim7.holds_tied_plain_at .later [] [.data, .data, .data, .data, .pinned, .pinned] true (true, "0600b912ff570f8277c1973df1c7ea4202240afd01304861485f3546231f3899") true
    typesTold_holds (fun _ h => by cases h) (by kernel_rfl) (fun _ h => by cases h) typesTold_row_tie rfl ⟨rfl, rfl⟩ (by kernel_rfl) rfl
    (fun f fn hf hfn => by
      obtain rfl : f = 10 := Option.some.inj (tt_named.symm.trans hf) |>.symm
      obtain rfl : fn = Tryz.f10 := (Option.some.inj (Tryz.func10.symm.trans hfn)).symm
      exact ⟨by kernel_rfl, fun j t ht => by
        rw [Tryz.params10] at ht
        have hm : t ∈ [23, 3, 3, 37] := by simpa using Array.mem_of_getElem? ht
        have hall : ([23, 3, 3, 37].all fun u => !Tryz.prog.wantsStandIn u) = true := by kernel_rfl
        exact (show Tryz.prog.wantsStandIn t = false by simpa using List.all_eq_true.1 hall t hm)⟩)
    (by kernel_rfl)
end Go.Proofs.YteaokkaidcbdlaaGreatDoor
