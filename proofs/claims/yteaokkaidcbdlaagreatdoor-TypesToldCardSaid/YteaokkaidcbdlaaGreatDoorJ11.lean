/- Part 11 of 53: the texts Am, one behind the other. -/
import Derived.Test.YteaokkaidcbdlaaGreatDoorJ9
import Derived.Tactics
import Derived.Tactics2
import Derived.WalkKit
import Derived.LoopTactic
import Derived.Outline
import Derived.Lib.Hide
import Derived.Handy
import Derived.KernelRfl
import Derived.Deep.LoopGhost
import Derived.CallsIn
import Derived.Deep.QuietTactic
import Derived.BigQuiet
import Derived.Deep.Draws
import Derived.WalkSpells
import Derived.Lib.Walk
import Derived.Lib.Strings
import Derived.Maps.OwnOps
import Derived.Maps.OwnSet
import Derived.Deep.RegionWith
import Derived.StillTailTactics
import Derived.WalkMore
import Derived.RangeFuncNested
import Derived.RangeFuncBound
import Derived.RangeFuncCalls
import Derived.RangeFuncLeaves
import Derived.RangeFuncBox
import Derived.Shelf.Abstract
import Derived.OwnWalkIn
import Derived.TacticsInMore
import Derived.LoopNIn
import Derived.LoopIn
import Derived.RecoverIn
import Derived.Maps.AppendAt
import Derived.RegionTactic
import Derived.ChangeAlike
import Derived.OwnWalk
import Derived.Deep.AppendLies
import Derived.Deep.DeepCutAuto
import Derived.Deep.RegionLaw
import Derived.Deep.RegionHeld3
import Derived.Laws.EntriesVeiled
namespace Go.Proofs.YteaokkaidcbdlaaGreatDoor
open Go Go.RowKit Go.Shelf
def partFitB (p q : PartD) : Bool := sameS p.name q.name && fitB p.type q.type
def methFitB (m n : MethD) : Bool := sameS m.name n.name && (sameS m.proc n.proc && (eqF fitB m.args n.args && (fitB m.result n.result && eqF sameS m.raises n.raises)))
def overFitB (p q : OverD) : Bool := sameS p.name q.name && sameS p.proc q.proc
theorem MethV.below {W W' : World} {va vr : Value} {m : MethD} (h : MethV W va vr m) (hb : Below W.heap.size W W') : MethV W' va vr m := h.go (.below hb)
set_option maxRecDepth 100000 in
set_option maxHeartbeats 8000000 in
theorem methFit_any (m n : MethD) (va vr ua ur : Value) (fb : Nat) (W : World) (hf : W.cell? ⟨fb, 0, none⟩ = some fitV) (hm : MethV W va vr m) (hn : MethV W ua ur n) :
    Calls Tryz.prog 163 #[.agg #[.string m.name, va, .int .i64 m.result, vr, .string m.proc], .agg #[.string n.name, ua, .int .i64 n.result, ur, .string n.proc], .pointer (some ⟨fb, 0, none⟩)] W fun e w' => e = .returned (.bool (methFitB m n)) ∧ Below W.heap.size W w' := by
  have hf2 : ∀ o1 o2, ((W.alloc o1).alloc o2).cell? ⟨fb, 0, none⟩ = some (.func (.func 158) #[] #[]) := fun o1 o2 => by
    have hl : fb < W.heap.size := cell_lt hf
    rw [World.cell?_alloc_lt _ _ _ (by simp only [World.size_alloc]; omega), World.cell?_alloc_lt _ _ _ hl]; exact hf
  have hb2 : ∀ o1 o2, Below W.heap.size W ((W.alloc o1).alloc o2) := fun o1 o2 => ((Below.refl _ _).alloc (Nat.le_refl _) _).alloc (by simp) _
  have h1 := hide (fun o1 o2 => eqInts_any va ua m.args n.args ((W.alloc o1).alloc o2) (hm.below (hb2 o1 o2)).args (hn.below (hb2 o1 o2)).args)
  have h2 := hide (fun o1 o2 => eqStrs_any vr ur m.raises n.raises ((W.alloc o1).alloc o2) (hm.below (hb2 o1 o2)).raises (hn.below (hb2 o1 o2)).raises)
  obtain ⟨oa, ca, rfl⟩ := hm.args.form
  obtain ⟨orr, cr, rfl⟩ := hm.raises.form
  obtain ⟨pa, da, rfl⟩ := hn.args.form
  obtain ⟨pr, dr, rfl⟩ := hn.raises.form
  have s1 : (m.name.toList == n.name.toList) = sameS m.name n.name := rfl
  have s2 : (m.proc.toList == n.proc.toList) = sameS m.proc n.proc := rfl
  have s3 := hide (fun w => fit_any m.result n.result w)
  have HB := Lib.hid (show methFitB m n = (sameS m.name n.name && (sameS m.proc n.proc && (eqF fitB m.args n.args && (fitB m.result n.result && eqF sameS m.raises n.raises)))) from rfl)
  clear hm hn hf
  generalize sameS m.name n.name = a at s1 HB
  generalize sameS m.proc n.proc = b at s2 HB
  generalize eqF fitB m.args n.args = c at h1 HB
  generalize fitB m.result n.result = d at s3 HB
  generalize eqF sameS m.raises n.raises = x at h2 HB
  rcases (show a = false ∨ (a = true ∧ b = false) ∨ (a = true ∧ b = true ∧ c = false) ∨ (a = true ∧ b = true ∧ c = true ∧ d = false) ∨ (a = true ∧ b = true ∧ c = true ∧ d = true) by cases a <;> cases b <;> cases c <;> cases d <;> simp) with rfl | ⟨rfl, rfl⟩ | ⟨rfl, rfl, rfl⟩ | ⟨rfl, rfl, rfl, rfl⟩ | ⟨rfl, rfl, rfl, rfl⟩
  all_goals
    go_enter Tryz.func163, Tryz.ntmps163
    go_wp2_with (first | (go_at_call 108; refine (unhide h1 _ _).mono ?_; rintro e w4 ⟨rfl, rfl⟩) | (go_at_call 158; refine (unhide s3 _).mono ?_; rintro e w4 ⟨rfl, rfl⟩) | (go_at_call 164; refine (unhide h2 _ _).mono ?_; rintro e w4 ⟨rfl, nq, rfl⟩))
    go_ret
    first
      | exact ⟨ret_bool HB.out.symm, hb2 _ _⟩
      | exact ⟨ret_bool HB.out.symm, below_drewN' (hb2 _ _) nq⟩
end Go.Proofs.YteaokkaidcbdlaaGreatDoor

