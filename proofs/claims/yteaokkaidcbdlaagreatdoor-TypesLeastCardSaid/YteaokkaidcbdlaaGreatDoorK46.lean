/- Part 46 of 53: the texts Xa, Xb, Yb, one behind the other. -/
import Derived.Test.YteaokkaidcbdlaaGreatDoorK45
import Derived.Tactics
import Derived.Tactics2
import Derived.WalkKit
import Derived.LoopTactic
import Derived.Outline
import Derived.Lib.Hide
import Derived.Handy
import Derived.KernelRfl
import Derived.Deep.LoopGhost
import Derived.CallsIn
import Derived.Deep.QuietTactic
import Derived.BigQuiet
import Derived.Deep.Draws
import Derived.WalkSpells
import Derived.Lib.Walk
import Derived.Lib.Strings
import Derived.Maps.OwnOps
import Derived.Maps.OwnSet
import Derived.Deep.RegionWith
import Derived.StillTailTactics
import Derived.WalkMore
import Derived.RangeFuncNested
import Derived.RangeFuncBound
import Derived.RangeFuncCalls
import Derived.RangeFuncLeaves
import Derived.RangeFuncBox
import Derived.Shelf.Abstract
import Derived.OwnWalkIn
import Derived.TacticsInMore
import Derived.LoopNIn
import Derived.LoopIn
import Derived.RecoverIn
import Derived.Maps.AppendAt
import Derived.RegionTactic
import Derived.ChangeAlike
import Derived.OwnWalk
import Derived.Deep.AppendLies
import Derived.Deep.DeepCutAuto
import Derived.Deep.RegionLaw
import Derived.Deep.RegionHeld3
import Derived.Laws.EntriesVeiled
import Derived.Test.YteaokkaidcbdlaaGreatDoorK9
namespace Go.Proofs.YteaokkaidcbdlaaGreatDoor
open Go Go.RowKit Go.Shelf
end Go.Proofs.YteaokkaidcbdlaaGreatDoor

namespace Go.Proofs.YteaokkaidcbdlaaGreatDoor
open Go Go.RowKit Go.Shelf
end Go.Proofs.YteaokkaidcbdlaaGreatDoor

namespace Go.Proofs.YteaokkaidcbdlaaGreatDoor
open Go Go.RowKit Go.Shelf
theorem eqF_at {α : Type} {f : α → α → Bool} {l m : List α} (hl : l.length = m.length) : eqF f l m = (l.zip m).all (fun x => f x.1 x.2) := by unfold eqF; rw [decide_eq_true hl, Bool.true_and]
theorem zip_take_next {α : Type} {f : α → α → Bool} {l m : List α} {k : Nat} (h1 : k < l.length) (h2 : k < m.length) : ((l.zip m).take (k + 1)).all (fun x => f x.1 x.2) = (((l.zip m).take k).all (fun x => f x.1 x.2) && f l[k] m[k]) := by
  rw [all_take _ _ _ (by rw [List.length_zip]; omega)]; simp
theorem zip_all_no {α : Type} {f : α → α → Bool} {l m : List α} {k : Nat} (h1 : k < l.length) (h2 : k < m.length) (h : f l[k] m[k] = false) : (l.zip m).all (fun x => f x.1 x.2) = false := by
  rw [List.all_eq_false]
  exact ⟨(l[k], m[k]), by rw [List.mem_iff_getElem]; exact ⟨k, by rw [List.length_zip]; omega, by simp⟩, by simp [h]⟩
set_option maxRecDepth 100000 in
theorem refStrings_any (va vb : Value) (xs ys : List ByteArray) (W : World) (ha : SliceOf 1 (StrAt W) va xs) (hb : SliceOf 1 (StrAt W) vb ys) :
    Calls Tryz.prog 89 #[va, vb] W fun e w' => e = .returned (.bool (eqF sameS xs ys)) ∧ Below W.heap.size W w' := by
  obtain ⟨o, cap, rfl⟩ := ha.form
  obtain ⟨o2, cap2, rfl⟩ := hb.form
  obtain ⟨-, hm, hl, hat⟩ := ha.at
  obtain ⟨-, hm2, hl2, hat2⟩ := hb.at
  have h63 : xs.length ≤ 9223372036854775807 := by unfold maxLen at hm; omega
  have h632 : ys.length ≤ 9223372036854775807 := by unfold maxLen at hm2; omega
  clear ha hb hm hm2 hl hl2
  obtain ⟨n, hn⟩ : ∃ n, xs.length = n := ⟨_, rfl⟩
  obtain ⟨n2, hn2⟩ : ∃ n2, ys.length = n2 := ⟨_, rfl⟩
  have HN := Lib.hid hn
  have HN2 := Lib.hid hn2
  rw [hn] at h63 ⊢
  rw [hn2] at h632 ⊢
  clear hn hn2
  by_cases hne : n = n2
  · subst hne
    have HE := Lib.hid (eqF_at (f := sameS) (l := xs) (m := ys) (by rw [HN.out, HN2.out]))
    go_enter Tryz.func89, Tryz.ntmps89
    go_wp2
    go_loopg [5] n (fun g i wr => ∃ k : Nat, k ≤ n ∧ g = n - k ∧ i = .int .i64 k ∧ Below W.heap.size W wr ∧ Hid (((xs.zip ys).take k).all (fun x => sameS x.1 x.2) = true))
    case atStart => exact ⟨0, Nat.zero_le _, rfl, rfl, Below.refl _ _, Lib.hid rfl⟩
    case round =>
      obtain ⟨k, hk, hgk, rfl, hbw, HT⟩ := hrel
      by_cases hlt : k < n
      · have h1 : k < xs.length := by rw [HN.out]; exact hlt
        have h2 : k < ys.length := by rw [HN2.out]; exact hlt
        obtain ⟨b, off, rfl, e0⟩ := hat k xs[k] (List.getElem?_eq_getElem h1)
        obtain ⟨b2, off2, rfl, f0⟩ := hat2 k ys[k] (List.getElem?_eq_getElem h2)
        replace e0 := e0.go (.below hbw)
        replace f0 := f0.go (.below hbw)
        have hBD := fun nq => below_drewN' hbw nq
        unfold StrAt at e0 f0
        simp only [Nat.mul_one] at e0 f0
        have HX := fun (h : sameS xs[k] ys[k] = false) => Lib.hid (show eqF sameS xs ys = false by rw [HE.out]; exact zip_all_no h1 h2 h)
        have HY := fun (h : sameS xs[k] ys[k] = true) => Lib.hid (show ((xs.zip ys).take (k + 1)).all (fun x => sameS x.1 x.2) = true by rw [zip_take_next (f := sameS) h1 h2, HT.out, h]; rfl)
        generalize xs[k] = x at e0 HX HY
        generalize ys[k] = y at f0 HX HY
        have hlt' : (k : Int) < n := by omega
        clear hat hat2 HN HN2 h1 h2 HT
        have hs : (x.toList == y.toList) = sameS x y := rfl
        have hsn : (x.toList != y.toList) = !sameS x y := rfl
        cases hxy : sameS x y
        · have HZ := HX hxy
          rw [hxy] at hs hsn
          clear HX HY hxy
          go_wp2
          go_quiet (fail)
          go_wp2
          go_ret
          exact ⟨ret_bool HZ.out.symm, hBD _⟩
        · have HZ := HY hxy
          rw [hxy] at hs hsn
          clear HX HY hxy
          go_wp2
          go_quiet (fail)
          go_wp2
          go_roundg (n - (k + 1))
          case measure => omega
          case rel => exact ⟨k + 1, by omega, rfl, by go_num, hBD nq, HZ⟩
      · have hk2 : k = n := by omega
        have HZ := Lib.hid (show eqF sameS xs ys = true by
          rw [HE.out]
          have h := HT.out
          rw [List.take_of_length_le (by rw [List.length_zip, HN.out, HN2.out]; omega)] at h
          exact h)
        have hlt' : ¬ (k : Int) < n := by omega
        clear hat hat2 HT hk2 hlt
        go_wp2
        go_ret
        exact ⟨ret_bool HZ.out.symm, hbw⟩
  · have HZ := Lib.hid (show eqF sameS xs ys = false by unfold eqF; rw [decide_eq_false (by rw [HN.out, HN2.out]; exact hne)]; rfl)
    have hne' : ((n : Int) == n2) = false := by simp; omega
    have hne2 : ((n : Int) != n2) = true := by unfold bne; rw [hne']; rfl
    clear hat hat2 hne
    go_enter Tryz.func89, Tryz.ntmps89
    go_wp2
    go_ret
    exact ⟨ret_bool HZ.out.symm, Below.refl _ _⟩
end Go.Proofs.YteaokkaidcbdlaaGreatDoor

