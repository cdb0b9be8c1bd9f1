/- Part 22 of 51: the texts Si, Sf, one behind the other. -/
import Derived.Test.YteaokkaidcbdlaaGreatDoorQ8
import Derived.Tactics
import Derived.Tactics2
import Derived.WalkKit
import Derived.LoopTactic
import Derived.Outline
import Derived.Lib.Hide
import Derived.Handy
import Derived.KernelRfl
import Derived.Deep.LoopGhost
import Derived.CallsIn
import Derived.Deep.QuietTactic
import Derived.BigQuiet
import Derived.Deep.Draws
import Derived.WalkSpells
import Derived.Lib.Walk
import Derived.Lib.Strings
import Derived.Maps.OwnOps
import Derived.Maps.OwnSet
import Derived.Deep.RegionWith
import Derived.StillTailTactics
import Derived.WalkMore
import Derived.RangeFuncNested
import Derived.RangeFuncBound
import Derived.RangeFuncCalls
import Derived.RangeFuncLeaves
import Derived.RangeFuncBox
import Derived.Shelf.Abstract
import Derived.OwnWalkIn
import Derived.TacticsInMore
import Derived.LoopNIn
import Derived.LoopIn
import Derived.RecoverIn
import Derived.Maps.AppendAt
import Derived.RegionTactic
import Derived.ChangeAlike
import Derived.OwnWalk
import Derived.Deep.AppendLies
import Derived.Deep.DeepCutAuto
import Derived.Deep.RegionLaw
import Derived.Deep.RegionHeld3
import Derived.Laws.EntriesVeiled
/- sameInts (31) and isSame's function (115) -/
namespace Go.Proofs.YteaokkaidcbdlaaGreatDoor
open Go Go.RowKit Go.Shelf
/-! ### sameInts (31): two rows of numbers that are the same; isSame$1 (115) -/
theorem isSame1_any (i j : Int) (W : World) : Calls Tryz.prog 115 #[.int .i64 i, .int .i64 j] W fun e w' => e = .returned (.bool (decide (i = j))) ∧ Below W.heap.size W w' := by
  by_cases h : i = j
  all_goals
    go_enter Tryz.func115, Tryz.ntmps115
    go_wp2
    go_ret
    exact ⟨ret_bool (by simp [h]), Below.refl _ _⟩
theorem take_ne {α : Type} {xs ys : List α} {k : Nat} (h1 : k < xs.length) (h2 : k < ys.length) (h : xs[k] ≠ ys[k]) : xs ≠ ys := by
  rintro rfl; exact h rfl
theorem take_eq {α : Type} {xs ys : List α} {k : Nat} (h1 : k < xs.length) (h2 : k < ys.length) (h : xs.take k = ys.take k) (he : xs[k] = ys[k]) : xs.take (k + 1) = ys.take (k + 1) := by
  rw [List.take_succ_eq_append_getElem h1, List.take_succ_eq_append_getElem h2, h, he]
theorem sameInts_any (va vb : Value) (xs ys : List Int) (W : World) (ha : SliceOf 1 (IntAt W) va xs) (hb : SliceOf 1 (IntAt W) vb ys) :
    Calls Tryz.prog 31 #[va, vb] W fun e w' => e = .returned (.bool (decide (xs = ys))) ∧ Below W.heap.size W w' := by
  obtain ⟨o, cap, rfl⟩ := ha.form
  obtain ⟨o2, cap2, rfl⟩ := hb.form
  obtain ⟨-, hm, hl, hat⟩ := ha.at
  obtain ⟨-, hm2, hl2, hat2⟩ := hb.at
  have h63 : xs.length ≤ 9223372036854775807 := by unfold maxLen at hm; omega
  have h632 : ys.length ≤ 9223372036854775807 := by unfold maxLen at hm2; omega
  clear ha hb hm hm2 hl hl2
  obtain ⟨n, hn⟩ : ∃ n, xs.length = n := ⟨_, rfl⟩
  obtain ⟨n2, hn2⟩ : ∃ n2, ys.length = n2 := ⟨_, rfl⟩
  have HN := Lib.hid hn
  have HN2 := Lib.hid hn2
  rw [hn] at h63 ⊢
  rw [hn2] at h632 ⊢
  clear hn hn2
  by_cases hne : n = n2
  · subst hne
    go_enter Tryz.func31, Tryz.ntmps31
    go_wp2
    go_loopg [5] n (fun g i wr => ∃ k : Nat, k ≤ n ∧ g = n - k ∧ i = .int .i64 k ∧ Below W.heap.size W wr ∧ Hid (xs.take k = ys.take k))
    case atStart => exact ⟨0, Nat.zero_le _, rfl, rfl, Below.refl _ _, Lib.hid rfl⟩
    case round =>
      obtain ⟨k, hk, hgk, rfl, hbw, HT⟩ := hrel
      by_cases hlt : k < n
      · have h1 : k < xs.length := by rw [HN.out]; exact hlt
        have h2 : k < ys.length := by rw [HN2.out]; exact hlt
        obtain ⟨b, off, rfl, e0⟩ := hat k xs[k] (List.getElem?_eq_getElem h1)
        obtain ⟨b2, off2, rfl, f0⟩ := hat2 k ys[k] (List.getElem?_eq_getElem h2)
        replace e0 := e0.go (.below hbw)
        replace f0 := f0.go (.below hbw)
        have hBD := fun nq => below_drewN' hbw nq
        unfold IntAt at e0 f0
        simp only [Nat.mul_one] at e0 f0
        have HX := fun h => Lib.hid (take_ne h1 h2 h)
        have HY := fun h => Lib.hid (take_eq h1 h2 HT.out h)
        generalize xs[k] = x at e0 HX HY
        generalize ys[k] = y at f0 HX HY
        have hlt' : (k : Int) < n := by omega
        clear hat hat2 HN HN2 h1 h2 HT
        by_cases hxy : x = y
        · have HZ := HY hxy
          subst hxy
          clear HX HY
          go_wp2
          go_quiet (fail)
          go_wp2
          go_roundg (n - (k + 1))
          case measure => omega
          case rel => exact ⟨k + 1, by omega, rfl, by go_num, hBD nq, HZ⟩
        · have HZ := HX hxy
          clear HX HY
          go_wp2
          go_quiet (fail)
          go_wp2
          go_ret
          exact ⟨ret_bool (by simp [HZ.out]), hBD nq⟩
      · obtain rfl : k = n := by omega
        have HE := Lib.hid (show xs = ys by
          have h := HT.out
          rw [List.take_of_length_le (by have := HN.out; omega), List.take_of_length_le (by have := HN2.out; omega)] at h
          exact h)
        clear hat hat2 HN HN2 HT
        go_wp2
        go_ret
        exact ⟨ret_bool (by simp [HE.out]), hbw⟩
  · have HE := Lib.hid (show xs ≠ ys by
      rintro rfl
      exact hne (HN.out.symm.trans HN2.out))
    clear hat hat2 HN HN2
    go_enter Tryz.func31, Tryz.ntmps31
    go_wp2
    go_ret
    exact ⟨ret_bool (by simp [HE.out]), Below.refl _ _⟩
end Go.Proofs.YteaokkaidcbdlaaGreatDoor
/- slices.Equal of numbers (109) -/
namespace Go.Proofs.YteaokkaidcbdlaaGreatDoor
open Go Go.RowKit Go.Shelf
/-! ### slices.Equal of numbers (109) -/
theorem equalInts_any (va vb : Value) (xs ys : List Int) (W : World) (ha : SliceOf 1 (IntAt W) va xs) (hb : SliceOf 1 (IntAt W) vb ys) :
    Calls Tryz.prog 109 #[va, vb] W fun e w' => e = .returned (.bool (decide (xs = ys))) ∧ Below W.heap.size W w' := by
  obtain ⟨o, cap, rfl⟩ := ha.form
  obtain ⟨o2, cap2, rfl⟩ := hb.form
  obtain ⟨-, hm, hl, hat⟩ := ha.at
  obtain ⟨-, hm2, hl2, hat2⟩ := hb.at
  have h63 : xs.length ≤ 9223372036854775807 := by unfold maxLen at hm; omega
  have h632 : ys.length ≤ 9223372036854775807 := by unfold maxLen at hm2; omega
  clear ha hb hm hm2 hl hl2
  obtain ⟨n, hn⟩ : ∃ n, xs.length = n := ⟨_, rfl⟩
  obtain ⟨n2, hn2⟩ : ∃ n2, ys.length = n2 := ⟨_, rfl⟩
  have HN := Lib.hid hn
  have HN2 := Lib.hid hn2
  rw [hn] at h63 ⊢
  rw [hn2] at h632 ⊢
  clear hn hn2
  by_cases hne : n = n2
  · subst hne
    go_enter Tryz.func109, Tryz.ntmps109
    go_wp2
    go_loopg [13] n (fun g i wr => ∃ k : Nat, k ≤ n ∧ g = n - k ∧ i = .int .i64 k ∧ Below W.heap.size W wr ∧ Hid (xs.take k = ys.take k))
    case atStart => exact ⟨0, Nat.zero_le _, rfl, rfl, Below.refl _ _, Lib.hid rfl⟩
    case round =>
      obtain ⟨k, hk, hgk, rfl, hbw, HT⟩ := hrel
      by_cases hlt : k < n
      · have h1 : k < xs.length := by rw [HN.out]; exact hlt
        have h2 : k < ys.length := by rw [HN2.out]; exact hlt
        obtain ⟨b, off, rfl, e0⟩ := hat k xs[k] (List.getElem?_eq_getElem h1)
        obtain ⟨b2, off2, rfl, f0⟩ := hat2 k ys[k] (List.getElem?_eq_getElem h2)
        replace e0 := e0.go (.below hbw)
        replace f0 := f0.go (.below hbw)
        have hBD := fun nq => below_drewN' hbw nq
        unfold IntAt at e0 f0
        simp only [Nat.mul_one] at e0 f0
        have HX := fun h => Lib.hid (take_ne h1 h2 h)
        have HY := fun h => Lib.hid (take_eq h1 h2 HT.out h)
        generalize xs[k] = x at e0 HX HY
        generalize ys[k] = y at f0 HX HY
        have hlt' : (k : Int) < n := by omega
        clear hat hat2 HN HN2 h1 h2 HT
        by_cases hxy : x = y
        · have HZ := HY hxy
          subst hxy
          clear HX HY
          go_wp2
          go_quiet (fail)
          go_wp2
          go_roundg (n - (k + 1))
          case measure => omega
          case rel => exact ⟨k + 1, by omega, rfl, by go_num, hBD nq, HZ⟩
        · have HZ := HX hxy
          clear HX HY
          go_wp2
          go_quiet (fail)
          go_wp2
          go_ret
          exact ⟨ret_bool (by simp [HZ.out]), hBD nq⟩
      · obtain rfl : k = n := by omega
        have HE := Lib.hid (show xs = ys by
          have h := HT.out
          rw [List.take_of_length_le (by have := HN.out; omega), List.take_of_length_le (by have := HN2.out; omega)] at h
          exact h)
        clear hat hat2 HN HN2 HT
        go_wp2
        go_ret
        exact ⟨ret_bool (by simp [HE.out]), hbw⟩
  · have HE := Lib.hid (show xs ≠ ys by
      rintro rfl
      exact hne (HN.out.symm.trans HN2.out))
    clear hat hat2 HN HN2
    go_enter Tryz.func109, Tryz.ntmps109
    go_wp2
    go_ret
    exact ⟨ret_bool (by simp [HE.out]), Below.refl _ _⟩
end Go.Proofs.YteaokkaidcbdlaaGreatDoor
