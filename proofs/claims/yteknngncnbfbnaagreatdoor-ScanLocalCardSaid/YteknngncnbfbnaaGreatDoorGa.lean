/- What the deferred function of Pieces does, behind a return and behind a fault. -/
import Derived.Test.YteknngncnbfbnaaGreatDoorNe
import Derived.Tactics
import Derived.Tactics2
import Derived.WalkKit
import Derived.LoopTactic
import Derived.Outline
import Derived.Lib.Hide
import Derived.Handy
import Derived.KernelRfl
import Derived.Deep.LoopGhost
import Derived.CallsIn
import Derived.Deep.QuietTactic
import Derived.BigQuiet
import Derived.Deep.Draws
import Derived.WalkSpells
import Derived.Lib.Walk
import Derived.Lib.Strings
import Derived.Maps.OwnOps
import Derived.Maps.OwnSet
import Derived.Deep.RegionWith
import Derived.StillTailTactics
import Derived.WalkMore
import Derived.RecoverIn
import Derived.RangeFuncLeaves
namespace Go.Proofs.YteknngncnbfbnaaGreatDoor
open Go Go.RowKit

theorem run_assert34 (x l : Int) (w : World) : (Instr.typeAssert (.iface 34 (.agg #[.int .i64 x, .int .i64 l])) 20 34 true).run Tryz.prog w = .ok (.tuple #[.agg #[.int .i64 x, .int .i64 l], .bool true]) w := by kernel_rfl
theorem run_assertNil (w : World) : (Instr.typeAssert .nilIface 20 34 true).run Tryz.prog w = .ok (.tuple #[.agg #[.int .i64 0, .int .i64 0], .bool false]) w := by kernel_rfl
theorem gaveUp_idle (p : Addr) (w : World) :
    CallsDIn Fence.wide 1 Tryz.prog 63 #[.pointer (some p)] .returning w fun e u' w' => e = .returned (.tuple #[]) ∧ u' = .returning ∧ w' = w.alloc (.cells #[.int .i64 0, .int .i64 0] 34) := by
  have ha := run_assertNil
  refine callsDIn_of_wpSIn Tryz.func63 rfl trivial fun c₀ cs hu => ?_
  apply wpSIn_seq
  apply wpSIn_region
  simp [wpOpsSIn, go_sem, recoverD, hu, Tryz.ntmps63, Exit.thenS, ha]
  apply wpSIn_seq
  apply wpSIn_region
  simp [wpOpsSIn, go_sem, Exit.thenS]
  refine wpSIn_cond (t := false) (by simp [Act.eval]) ?_
  simp only [Bool.false_eq_true, if_false]
  refine wpSIn_of_wpIn rfl (wpIn_skip ?_)
  cases c₀
  simp_all [bodyPostS, results, Tryz.results63]
theorem gaveUp_caught (b : Nat) (y z x l : Int) (w : World) (hB : Blk w b [.int .i64 y, .int .i64 z] 34) :
    CallsDIn Fence.wide 1 Tryz.prog 63 #[.pointer (some ⟨b, 0, none⟩)] (.panicking [{ v := .iface 34 (.agg #[.int .i64 x, .int .i64 l]), recovered := false }]) w fun e u' w' =>
      e = .returned (.tuple #[]) ∧ u' = .panicking [{ v := .iface 34 (.agg #[.int .i64 x, .int .i64 l]), recovered := true }] ∧ w' = ((w.alloc (.cells #[.int .i64 x, .int .i64 l] 34)).setCell ⟨b, 0, none⟩ (.int .i64 x)).setCell ⟨b, 1, none⟩ (.int .i64 l) := by
  have ha := run_assert34 x l
  have hc0 : ∀ o, (w.alloc o).cell? ⟨b, 0, none⟩ = some (.int .i64 y) := fun o => (hB.alloc o).cell 0
  have hc1 : ∀ o, (w.alloc o).cell? ⟨b, 1, none⟩ = some (.int .i64 z) := fun o => (hB.alloc o).cell 1
  have hz0 : ∀ o, (w.alloc o).frozen? ⟨b, 0, none⟩ = false := fun o => (hB.alloc o).frozen 0
  have hz1 : ∀ o, (w.alloc o).frozen? ⟨b, 1, none⟩ = false := fun o => (hB.alloc o).frozen 1
  refine callsDIn_of_wpSIn Tryz.func63 rfl trivial fun c₀ cs hu => ?_
  apply wpSIn_seq
  apply wpSIn_region
  simp [wpOpsSIn, go_sem, recoverD, hu, Tryz.ntmps63, Exit.thenS, ha]
  apply wpSIn_seq
  apply wpSIn_region
  simp [wpOpsSIn, go_sem, Exit.thenS]
  refine wpSIn_cond (t := true) (by simp [Act.eval]) ?_
  simp only [if_true]
  apply wpSIn_region
  simp [wpOpsSIn, go_sem, hc0, hc1, hz0, hz1, bodyPostS, results, Tryz.results63]
end Go.Proofs.YteknngncnbfbnaaGreatDoor
