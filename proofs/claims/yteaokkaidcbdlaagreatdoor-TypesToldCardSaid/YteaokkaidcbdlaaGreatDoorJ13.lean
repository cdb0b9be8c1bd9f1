/- Part 13 of 53: the texts Eo, one behind the other. -/
import Derived.Test.YteaokkaidcbdlaaGreatDoorJ11
import Derived.Tactics
import Derived.Tactics2
import Derived.WalkKit
import Derived.LoopTactic
import Derived.Outline
import Derived.Lib.Hide
import Derived.Handy
import Derived.KernelRfl
import Derived.Deep.LoopGhost
import Derived.CallsIn
import Derived.Deep.QuietTactic
import Derived.BigQuiet
import Derived.Deep.Draws
import Derived.WalkSpells
import Derived.Lib.Walk
import Derived.Lib.Strings
import Derived.Maps.OwnOps
import Derived.Maps.OwnSet
import Derived.Deep.RegionWith
import Derived.StillTailTactics
import Derived.WalkMore
import Derived.RangeFuncNested
import Derived.RangeFuncBound
import Derived.RangeFuncCalls
import Derived.RangeFuncLeaves
import Derived.RangeFuncBox
import Derived.Shelf.Abstract
import Derived.OwnWalkIn
import Derived.TacticsInMore
import Derived.LoopNIn
import Derived.LoopIn
import Derived.RecoverIn
import Derived.Maps.AppendAt
import Derived.RegionTactic
import Derived.ChangeAlike
import Derived.OwnWalk
import Derived.Deep.AppendLies
import Derived.Deep.DeepCutAuto
import Derived.Deep.RegionLaw
import Derived.Deep.RegionHeld3
import Derived.Laws.EntriesVeiled
namespace Go.Proofs.YteaokkaidcbdlaaGreatDoor
open Go Go.RowKit Go.Shelf
theorem drewN_two (w : World) (a b : Nat) : (w.drewN a).drewN b = w.drewN (a + b) := by unfold World.drewN; simp [Nat.add_assoc]
set_option maxRecDepth 100000 in
set_option maxHeartbeats 8000000 in
theorem eqOvers_any (v u : Value) (l m : List OverD) (W : World) (hl : SliceOf 2 (OverAt W) v l) (hm : SliceOf 2 (OverAt W) u m) :
    Calls Tryz.prog 167 #[v, u] W fun e w' => e = .returned (.bool (eqF overFitB l m)) ∧ ∃ n, w' = W.drewN n := by
  obtain ⟨o, cap, rfl⟩ := hl.form
  obtain ⟨p, cup, rfl⟩ := hm.form
  obtain ⟨_, hcm, hlc, hat⟩ := hl.at
  obtain ⟨_, hcm2, hlc2, hat2⟩ := hm.at
  have hl63 : l.length ≤ 9223372036854775807 := by unfold maxLen at hcm; omega
  clear hl hm hcm hcm2 hlc hlc2
  by_cases hlen : l.length = m.length
  · have hne : ((l.length : Int) != m.length) = false := by simp; omega
    go_enter Tryz.func167, Tryz.ntmps167
    go_wp2
    go_loopw [13] (fun i wr => ∃ k n : Nat, k ≤ l.length ∧ i = .int .i64 k ∧ wr = W.drewN n ∧ Hid (((l.zip m).take k).all (fun x => overFitB x.1 x.2) = true)) (fun i _ => l.length - (intOf i).toNat)
    case atStart => exact ⟨0, 0, Nat.zero_le _, rfl, rfl, Lib.hid rfl⟩
    case round =>
      obtain ⟨k, n, hk, rfl, rfl, HT⟩ := hrel
      by_cases hlt : k < l.length
      · have hlt2 : k < m.length := by omega
        have hlt' : (k : Int) < l.length := by omega
        have hlt2' : (k : Int) < m.length := by omega
        obtain ⟨b, off, rfl, e0⟩ := hat k l[k] (List.getElem?_eq_getElem hlt)
        obtain ⟨b2, off2, rfl, e1⟩ := hat2 k m[k] (List.getElem?_eq_getElem hlt2)
        have r0 : W.cell? ⟨b, off + k * 2, none⟩ = some (.string l[k].name) := e0.1
        have r1 : W.cell? ⟨b, off + k * 2 + 1, none⟩ = some (.string l[k].proc) := e0.2
        have r2 : W.cell? ⟨b2, off2 + k * 2, none⟩ = some (.string m[k].name) := e1.1
        have r3 : W.cell? ⟨b2, off2 + k * 2 + 1, none⟩ = some (.string m[k].proc) := e1.2
        have s1 : (l[k].name.toList == m[k].name.toList) = sameS l[k].name m[k].name := rfl
        have s2 : (l[k].proc.toList == m[k].proc.toList) = sameS l[k].proc m[k].proc := rfl
        have HB := Lib.hid (show overFitB l[k] m[k] = (sameS l[k].name m[k].name && sameS l[k].proc m[k].proc) from rfl)
        clear e0 e1 hat hat2 hlen hne
        generalize sameS l[k].name m[k].name = x at s1 HB
        generalize sameS l[k].proc m[k].proc = y at s2 HB
        rcases (show x = false ∨ (x = true ∧ y = false) ∨ (x = true ∧ y = true) by cases x <;> cases y <;> simp) with rfl | ⟨rfl, rfl⟩ | ⟨rfl, rfl⟩
        · have HX := Lib.hid (eqF_no (f := overFitB) k hlt hlt2 (by rw [HB.out]; rfl))
          clear HB
          go_wp2
          go_quiet (fail)
          go_wp2
          go_ret
          exact ⟨ret_bool HX.out.symm, _, drewN_two _ _ _⟩
        · have HX := Lib.hid (eqF_no (f := overFitB) k hlt hlt2 (by rw [HB.out]; rfl))
          clear HB
          go_wp2
          go_quiet (fail)
          go_wp2
          go_ret
          exact ⟨ret_bool HX.out.symm, _, drewN_two _ _ _⟩
        · have HX := Lib.hid (show ((l.zip m).take (k + 1)).all (fun x => overFitB x.1 x.2) = true by rw [eqF_take (f := overFitB) k hlt hlt2, HT.out, HB.out]; rfl)
          clear HB
          go_wp2
          go_quiet (fail)
          go_wp2
          go_roundw
          case rel => exact ⟨k + 1, n + nq, by omega, by go_num, by rfl, HX⟩
          case measure => simp [intOf]; omega
      · obtain rfl : k = l.length := by omega
        have HX := Lib.hid (eqF_yes hlen HT.out)
        go_wp2
        go_ret
        exact ⟨ret_bool HX.out.symm, n, rfl⟩
  · have hne : ((l.length : Int) != m.length) = true := by simp; omega
    have HX := Lib.hid (eqF_len (f := overFitB) hlen)
    clear hlen hat hat2
    go_enter Tryz.func167, Tryz.ntmps167
    go_wp2
    go_ret
    exact ⟨ret_bool HX.out.symm, 0, rfl⟩
end Go.Proofs.YteaokkaidcbdlaaGreatDoor

