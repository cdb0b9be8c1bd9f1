/- Part 47 of 53: the texts Ze, Wa, one behind the other. -/
import Derived.Test.YteaokkaidcbdlaaGreatDoorM42
import Derived.Test.YteaokkaidcbdlaaGreatDoorM46
import Derived.Test.YteaokkaidcbdlaaGreatDoorM25
import Derived.Test.YteaokkaidcbdlaaGreatDoorM38
namespace Go.Proofs.YteaokkaidcbdlaaGreatDoor
open Go Go.RowKit Go.Shelf
theorem refChecked_none (gv : Value) (G : List TyD) (W : World) (hG0 : GrAt W gv G) (hz : GrZ G) :
    Calls Tryz.prog 58 #[gv, .slice none 0 0] W fun e w' => e = .returned (.int .i64 (checkedR G [])) ∧ Below W.heap.size W w' :=
  refChecked_any gv G W hG0 hz _ [] ⟨none, 0, rfl, Nat.le_refl _, by decide, fun q x hx => by simp at hx⟩
end Go.Proofs.YteaokkaidcbdlaaGreatDoor

namespace Go.Proofs.YteaokkaidcbdlaaGreatDoor
open Go Go.RowKit Go.Shelf
set_option maxRecDepth 100000 in
set_option maxHeartbeats 8000000 in
theorem refClassesCall_any (gv : Value) (G : List TyD) (W : World) (hG0 : GrAt W gv G) (hz : GrZ G) :
    Calls Tryz.prog 33 #[gv] W fun e w' => ∃ v, e = .returned (.tuple #[v, .int .i64 (checkedR G [])]) ∧ Below W.heap.size W w' ∧ (if checkedR G [] = 0 then ∃ g, v = .slice (some ⟨g, 0, none⟩) G.length G.length ∧ rowN w' g G.length (clF G) else v = .slice none 0 0) := by
  obtain ⟨o, cap, rfl⟩ := hG0.form
  have HC := hide (refChecked_none _ G W hG0 hz)
  by_cases h0 : checkedR G [] = 0
  ·have hc := (checkedR_zero.1 h0).1
   have HK := hide (fun (w1 : World) (h : Below W.heap.size W w1) => refClasses_any _ G w1 (hG0.below h) hz hc)
   rw [h0] at HC ⊢
   clear h0 hc hz hG0
   go_enter Tryz.func33, Tryz.ntmps33
   go_wp2_with (first | (go_at_call 58; refine (unhide HC).mono ?_; clear HC; rintro e w1 ⟨rfl, hb1⟩) | (go_at_call 65; refine (unhide HK w1 hb1).mono ?_; clear HK; rintro e w3 ⟨g3, rfl, hr3, hb3⟩))
   go_ret2
   exact ⟨_, rfl, hb1.trans (hb3.mono hb1.size), _, rfl, hr3⟩
  ·clear hz hG0
   generalize checkedR G [] = ck at h0 HC
   go_enter Tryz.func33, Tryz.ntmps33
   go_wp2_with (first | (go_at_call 58; refine (unhide HC).mono ?_; clear HC; rintro e w1 ⟨rfl, hb1⟩))
   go_ret2
   first
    | exact ⟨rfl, hb1⟩
    | exact ⟨_, rfl, hb1, rfl⟩
end Go.Proofs.YteaokkaidcbdlaaGreatDoor

