/- Part 50 of 53: the texts Zc, one behind the other. -/
import Derived.Test.YteaokkaidcbdlaaGreatDoorS40
import Derived.Test.YteaokkaidcbdlaaGreatDoorS31
import Derived.Tactics
import Derived.Tactics2
import Derived.WalkKit
import Derived.LoopTactic
import Derived.Outline
import Derived.Lib.Hide
import Derived.Handy
import Derived.KernelRfl
import Derived.Deep.LoopGhost
import Derived.CallsIn
import Derived.Deep.QuietTactic
import Derived.BigQuiet
import Derived.Deep.Draws
import Derived.WalkSpells
import Derived.Lib.Walk
import Derived.Lib.Strings
import Derived.Maps.OwnOps
import Derived.Maps.OwnSet
import Derived.Deep.RegionWith
import Derived.StillTailTactics
import Derived.WalkMore
import Derived.RangeFuncNested
import Derived.RangeFuncBound
import Derived.RangeFuncCalls
import Derived.RangeFuncLeaves
import Derived.RangeFuncBox
import Derived.Shelf.Abstract
import Derived.OwnWalkIn
import Derived.TacticsInMore
import Derived.LoopNIn
import Derived.LoopIn
import Derived.RecoverIn
import Derived.Maps.AppendAt
import Derived.RegionTactic
import Derived.ChangeAlike
import Derived.OwnWalk
import Derived.Deep.AppendLies
import Derived.Deep.DeepCutAuto
import Derived.Deep.RegionLaw
import Derived.Deep.RegionHeld3
import Derived.Laws.EntriesVeiled
/- CheckEqual (25) -/
namespace Go.Proofs.YteaokkaidcbdlaaGreatDoor
open Go Go.RowKit Go.Shelf
/-! ### CheckEqual (25) -/
theorem checked_none (gv : Value) (G : List TyD) (W : World) (hG0 : GrAt W gv G) (hz : GrZ G) :
    Calls Tryz.prog 57 #[gv, .slice none 0 0] W fun e w' => e = .returned (.int .i64 (checkedR G [])) ∧ Below W.heap.size W w' :=
  checked_any gv G W hG0 hz _ [] ⟨none, 0, rfl, Nat.le_refl _, by decide, fun q x hx => by simp at hx⟩
theorem PairAt.sl {W W' : World} {vl : Value} {l : List (Int × Int)} (hl : SliceOf 2 (PairAt W) vl l) (h : Below W.heap.size W W') : SliceOf 2 (PairAt W') vl l := hl.mono fun _ _ _ _ => PairAt.go (.below h)
set_option maxRecDepth 100000 in
set_option maxHeartbeats 8000000 in
theorem checkEqual_all (gv vl : Value) (G : List TyD) (l : List (Int × Int)) (W : World) (hG0 : GrAt W gv G) (hz : GrZ G) (hl : SliceOf 2 (PairAt W) vl l) (hok : ∀ p ∈ l, okI p.1 ∧ okI p.2) :
    Calls Tryz.prog 25 #[gv, vl] W fun e w' => e = .returned (.tuple #[.bool (ckEqualL G l).1, .int .i64 (ckEqualL G l).2]) ∧ Below W.heap.size W w' := by
  obtain ⟨o, cap, rfl⟩ := hG0.form
  obtain ⟨ow, cw, rfl⟩ := hl.form
  have HC := hide (checked_none _ G W hG0 hz)
  by_cases h0 : checkedR G [] = 0
  · obtain ⟨h1, h2, h3⟩ := checked_fit hz h0
    rw [h0] at HC
    by_cases hbig : 2000 < l.length
    · have HX := Lib.hid (show ckEqualL G l = (false, 2) by unfold ckEqualL; rw [if_neg (by simp [h0]), if_pos hbig])
      have hb' : (2000 : Int) < l.length := by omega
      clear h0 h1 h2 h3 hz hG0 hl hok hbig
      generalize l.length = n at hb' ⊢
      go_enter Tryz.func25, Tryz.ntmps25
      go_wp2_with (first | (go_at_call 57; refine (unhide HC).mono ?_; clear HC; rintro e w1 ⟨rfl, hb1⟩))
      go_ret2
      exact ⟨by rw [HX.out]; rfl, hb1⟩
    · have HX := Lib.hid (show ckEqualL G l = (closedB G l, 0) by unfold ckEqualL; rw [if_neg (by simp [h0]), if_neg hbig])
      have hb' : ¬ (2000 : Int) < l.length := by omega
      have HTA := hide (fun (w1 : World) (h : Below W.heap.size W w1) => isClosed_any o cap G (.slice ow l.length cw) l w1 (hG0.below h) (PairAt.sl hl h) hok h1 h2 h3 (by omega) agB_refs)
      clear h0 h1 h2 h3 hz hG0 hl hok hbig
      generalize l.length = n at hb' HTA ⊢
      go_enter Tryz.func25, Tryz.ntmps25
      go_wp2_with (first | (go_at_call 57; refine (unhide HC).mono ?_; clear HC; rintro e w1 ⟨rfl, hb1⟩) | (go_at_call 66; refine (unhide HTA w1 hb1).mono ?_; clear HTA; rintro e w2 ⟨rfl, hb2⟩))
      go_ret2
      exact ⟨by rw [HX.out]; rfl, hb1.trans (hb2.mono hb1.size)⟩
  · have HX := Lib.hid (show ckEqualL G l = (false, checkedR G []) by unfold ckEqualL; rw [if_pos h0])
    clear hG0 hz hl hok
    generalize checkedR G [] = ck at h0 HC HX
    go_enter Tryz.func25, Tryz.ntmps25
    go_wp2_with (first | (go_at_call 57; refine (unhide HC).mono ?_; clear HC; rintro e w1 ⟨rfl, hb1⟩))
    go_ret2
    exact ⟨by rw [HX.out]; rfl, hb1⟩
end Go.Proofs.YteaokkaidcbdlaaGreatDoor
