/- The reference's Spot and Place, walked. -/
import Derived.Test.YteknngncnbfbnaaGreatDoorMb
import Derived.Test.YteknngncnbfbnaaGreatDoorRh
import Derived.RangeFuncNested
import Derived.RangeFuncBound
import Derived.RangeFuncCalls
import Derived.RangeFuncLeaves
import Derived.RangeFuncBox
import Derived.Shelf.Abstract
import Derived.WalkKit
import Derived.OwnWalkIn
import Derived.TacticsInMore
import Derived.LoopNIn
import Derived.LoopIn
import Derived.RecoverIn
import Derived.Maps.AppendAt
import Derived.Outline
import Derived.Handy
import Derived.Deep.LoopGhost
import Derived.RegionTactic
import Derived.ChangeAlike
import Derived.Deep.QuietTactic
import Derived.BigQuiet
import Derived.StillTailTactics
import Derived.Deep.RegionWith
import Derived.LoopTactic
import Derived.OwnWalk
import Derived.Deep.AppendLies
import Derived.Deep.DeepCutAuto
import Derived.KernelRfl
namespace Go.Proofs.YteknngncnbfbnaaGreatDoor
open Go Go.RowKit Go.Shelf
set_option maxHeartbeats 800000 in
theorem feeds_any (s : ByteArray) (hs : s.size ≤ 9223372036854775806) (w : World) : Calls Tryz.prog 67 #[.string s] w fun e w' => e = .returned (.int .i64 (nl (bs s))) ∧ w = w' := by
  go_enter Tryz.func67, Tryz.ntmps67
  go_wp2
  go_loopw [3, 4] (fun n i wr => ∃ k m : Nat, k ≤ s.size ∧ i = .int .i64 k ∧ n = .int .i64 m ∧ m ≤ k ∧ wr = w ∧ Hid (nl (bs s) = m + nl ((bs s).drop k))) (fun _ i _ => s.size - (intOf i).toNat)
  case atStart => exact ⟨0, 0, Nat.zero_le _, rfl, rfl, Nat.le_refl _, rfl, Lib.hid (by simp)⟩
  case round =>
    obtain ⟨k, m, hk, rfl, rfl, hm, rfl, HF⟩ := hrel
    by_cases hlt : k < s.size
    · have hat := bs_at s k hlt
      by_cases hc : s[k] = 10
      · have hb : ((s[k].toNat : Int) == 10) = true := by rw [hc]; rfl
        have HN := Lib.hid (show nl (bs s) = m + 1 + nl ((bs s).drop (k + 1)) by
          rw [HF.out, hat, hc]; unfold nl; rw [List.countP_cons_of_pos (by decide)]; omega)
        clear hat hc HF
        go_wp2
        go_roundw
        case rel => exact ⟨k + 1, m + 1, by omega, by go_num, by go_num, by omega, trivial, HN⟩
        case measure => simp [intOf]; omega
      · have hb : ((s[k].toNat : Int) == 10) = false := by
          rw [beq_eq_false_iff_ne]
          intro h
          exact hc (UInt8.toNat_inj.1 (by have : (10 : UInt8).toNat = 10 := rfl
                                          omega))
        have HN := Lib.hid (show nl (bs s) = m + nl ((bs s).drop (k + 1)) by
          rw [HF.out, hat]; unfold nl; rw [List.countP_cons_of_neg (by simpa using hc)])
        clear hat hc HF
        go_wp2
        go_roundw
        case rel => exact ⟨k + 1, m, by omega, by go_num, rfl, by omega, trivial, HN⟩
        case measure => simp [intOf]; omega
    · obtain rfl : k = s.size := by omega
      have HE := Lib.hid (show nl (bs s) = m by rw [HF.out, List.drop_eq_nil_of_le (by rw [bs_len]; exact Nat.le_refl _)]; rfl)
      go_wp2
      go_ret
      exact ⟨by rw [HE.out]; rfl, rfl⟩
theorem spotR_col {s : ByteArray} {k : Nat} (hs : s.size ≤ 20000) (hk : k ≤ s.size) : spotR s k = (((1 + nl ((bs s).take k) : Nat) : Int), ((colL ((bs s).take k) : Nat) : Int), 0) := by
  rw [spotR_at hs hk, spotL_lns _ _ (by rw [bs_len]; exact hk)]
theorem take_at {s : ByteArray} {j : Nat} (h : j < s.size) : (bs s).take (j + 1) = (bs s).take j ++ [s[j]] := by
  rw [List.take_succ_eq_append_getElem (by rw [bs_len]; exact h)]
  congr 2
set_option maxHeartbeats 800000 in
theorem refSpot_any (s : ByteArray) (at_ : Int) (w : World) : Calls Tryz.prog 39 #[.string s, .int .i64 at_] w fun e w' => e = .returned (.tuple #[.int .i64 (spotR s at_).1, .int .i64 (spotR s at_).2.1, .int .i64 (spotR s at_).2.2]) ∧ w = w' := by
  by_cases h1 : 20000 < s.size
  · have HR : Hid (spotR s at_ = (0, 0, 2)) := if_pos h1
    have h1' : (20000 : Int) < s.size := by omega
    go_enter Tryz.func39, Tryz.ntmps39
    go_wp2_with fail
    go_ret3
    exact ⟨ret_three (by rw [HR.out]; rfl) (by rw [HR.out]; rfl) (by rw [HR.out]; rfl), rfl⟩
  · have h1' : ¬ (20000 : Int) < s.size := by omega
    by_cases h2 : at_ < 0
    · have HR : Hid (spotR s at_ = (0, 0, 1)) := (if_neg h1).trans (if_pos (.inl h2))
      go_enter Tryz.func39, Tryz.ntmps39
      go_wp2_with fail
      go_ret3
      exact ⟨ret_three (by rw [HR.out]; rfl) (by rw [HR.out]; rfl) (by rw [HR.out]; rfl), rfl⟩
    · by_cases h3 : (s.size : Int) < at_
      · have HR : Hid (spotR s at_ = (0, 0, 1)) := (if_neg h1).trans (if_pos (.inr h3))
        go_enter Tryz.func39, Tryz.ntmps39
        go_wp2_with fail
        go_ret3
        exact ⟨ret_three (by rw [HR.out]; rfl) (by rw [HR.out]; rfl) (by rw [HR.out]; rfl), rfl⟩
      · obtain ⟨k, rfl⟩ : ∃ k : Nat, at_ = k := ⟨at_.toNat, by omega⟩
        have hk : k ≤ s.size := by omega
        have HR := Lib.hid (spotR_col (s := s) (k := k) (by omega) hk)
        have hn := nl_le (bs (s.extract 0 k))
        rw [bs_len, ByteArray.size_extract] at hn
        have HF := hide (fun W => feeds_any (s.extract 0 k) (by rw [ByteArray.size_extract]; omega) W)
        go_enter Tryz.func39, Tryz.ntmps39
        go_wp2_with fail
        go_loopw [7, 8] (fun c i wr => ∃ j m : Nat, j ≤ k ∧ i = .int .i64 ((j : Int) - 1) ∧ c = .int .i64 m ∧ m + j = k + 1 ∧ wr = w ∧ Hid (colL ((bs s).take j) + m = colL ((bs s).take k) + 1)) (fun _ i _ => (intOf i + 1).toNat)
        case atStart => exact ⟨k, 1, Nat.le_refl _, rfl, rfl, by omega, rfl, Lib.hid rfl⟩
        case round =>
          obtain ⟨j, m, hj, rfl, rfl, hm, rfl, HC⟩ := hrel
          have done : ∀ {c : Nat}, colL ((bs s).take j) = 1 → m = colL ((bs s).take k) := fun h => by have := HC.out; omega
          cases j with
          | zero =>
            have HM := Lib.hid (done (c := 0) rfl)
            clear done HC
            go_wp2_with (go_at_call 67; refine (unhide HF _).mono ?_; rintro e w' ⟨rfl, rfl⟩)
            go_ret3
            refine ⟨ret_three ?_ ?_ ?_, rfl⟩
            · rw [HR.out]; simp [bs_take]
            · rw [HR.out, HM.out]; rfl
            · rw [HR.out]; rfl
          | succ j =>
            have hjs : j < s.size := by omega
            have ej : (((j + 1 : Nat) : Int) - 1) = (j : Int) := by omega
            rw [ej]
            have hsn := colL_snoc s[j] ((bs s).take j)
            rw [← take_at hjs] at hsn
            by_cases hc : s[j] = 10
            · have hb : ((s[j].toNat : Int) != 10) = false := by rw [hc]; rfl
              rw [if_pos hc] at hsn
              have HM := Lib.hid (done (c := 0) hsn)
              clear done HC hsn hc ej
              go_wp2_with (go_at_call 67; refine (unhide HF _).mono ?_; rintro e w' ⟨rfl, rfl⟩)
              go_ret3
              refine ⟨ret_three ?_ ?_ ?_, rfl⟩
              · rw [HR.out]; simp [bs_take]
              · rw [HR.out, HM.out]; rfl
              · rw [HR.out]; rfl
            · have hb : ((s[j].toNat : Int) != 10) = true := by
                rw [bne_iff_ne]
                intro h
                exact hc (UInt8.toNat_inj.1 (by have : (10 : UInt8).toNat = 10 := rfl
                                                omega))
              rw [if_neg hc] at hsn
              have HN := Lib.hid (show colL ((bs s).take j) + (m + 1) = colL ((bs s).take k) + 1 by have := HC.out; omega)
              clear done HC hsn hc ej
              go_wp2
              go_roundw
              case rel => exact ⟨j, m + 1, by omega, by go_num, by go_num, by omega, trivial, HN⟩
              case measure => simp [intOf]
theorem placeR_err {s : ByteArray} {line column : Int} (hs : s.size ≤ 20000) (h : (placeR s line column).2 ≠ 0) : placeR s line column = (0, 1) := by
  unfold placeR at h ⊢
  rw [if_neg (by omega)] at h ⊢
  split
  · rfl
  next h2 =>
    rw [if_neg h2] at h
    split
    · rfl
    next h3 => rw [if_neg h3] at h; exact absurd rfl h
set_option maxHeartbeats 800000 in
theorem refPlace_err (s : ByteArray) (line column : Int) (h : (placeR s line column).2 ≠ 0) (w : World) : Calls Tryz.prog 41 #[.string s, .int .i64 line, .int .i64 column] w fun e w' => e = .returned (.tuple #[.int .i64 0, .int .i64 (placeR s line column).2]) ∧ w = w' := by
  by_cases h1 : 20000 < s.size
  · have HR : Hid (placeR s line column = (0, 2)) := if_pos h1
    have h1' : (20000 : Int) < s.size := by omega
    clear h
    go_enter Tryz.func41, Tryz.ntmps41
    go_wp2_with fail
    go_ret2
    exact ⟨ret_two rfl (by rw [HR.out]; rfl), rfl⟩
  · have h1' : ¬ (20000 : Int) < s.size := by omega
    have HR := Lib.hid (placeR_err (by omega) h)
    have HN := Lib.hid (fun k (hk : k ≤ s.size) => spot_never (s := s) (line := line) (column := column) HR.out (by decide) (by omega) hk)
    clear h
    go_enter Tryz.func41, Tryz.ntmps41
    go_wp2_with fail
    go_loopw [8] (fun i wr => ∃ k : Nat, k ≤ s.size + 1 ∧ i = .int .i64 k ∧ wr = w) (fun i _ => s.size + 1 - (intOf i).toNat)
    case atStart => exact ⟨0, Nat.zero_le _, rfl, rfl⟩
    case round =>
      obtain ⟨k, hk, rfl, rfl⟩ := hrel
      by_cases hlt : k ≤ s.size
      · have hn := HN.out k hlt
        have hsp := fun W => refSpot_any s k W
        revert hn hsp
        generalize (spotR s k).1 = a
        generalize (spotR s k).2.1 = c
        generalize (spotR s k).2.2 = e
        intro hn hsp
        have HS := hide hsp
        clear hsp
        by_cases ha : a = line
        · have hc : ¬ c = column := fun hc => hn ⟨ha, hc⟩
          have ha' : (a == line) = true := by simpa using ha
          have hc' : (c == column) = false := by simpa using hc
          have hgt : ¬ line < a := by omega
          clear hn ha hc
          go_wp2_with (go_at_call 39; refine (unhide HS _).mono ?_; rintro e1 w1 ⟨rfl, rfl⟩)
          go_roundw
          case rel => exact ⟨k + 1, by omega, by go_num, trivial⟩
          case measure => simp [intOf]; omega
        · have ha' : (a == line) = false := by simpa using ha
          clear hn
          by_cases hgt : line < a
          · clear ha
            go_wp2_with (go_at_call 39; refine (unhide HS _).mono ?_; rintro e1 w1 ⟨rfl, rfl⟩)
            go_ret2
            exact ⟨ret_two rfl (by rw [HR.out]; rfl), rfl⟩
          · clear ha
            go_wp2_with (go_at_call 39; refine (unhide HS _).mono ?_; rintro e1 w1 ⟨rfl, rfl⟩)
            go_roundw
            case rel => exact ⟨k + 1, by omega, by go_num, trivial⟩
            case measure => simp [intOf]; omega
      · go_wp2
        go_ret2
        exact ⟨ret_two rfl (by rw [HR.out]; rfl), rfl⟩
theorem fair_any (s : ByteArray) (w : World) : Calls Tryz.prog 30 #[.string s] w fun e w' => e = .returned (.bool (decide (s.size ≤ 1200 ∨ (20000 < s.size ∧ s.size ≤ 20020)))) ∧ w = w' := by
  rcases (show (s.size : Int) ≤ 1200 ∨ (¬ (s.size : Int) ≤ 1200 ∧ ¬ (20000 : Int) < s.size) ∨ (¬ (s.size : Int) ≤ 1200 ∧ (20000 : Int) < s.size ∧ (s.size : Int) ≤ 20020) ∨ (¬ (s.size : Int) ≤ 1200 ∧ (20000 : Int) < s.size ∧ ¬ (s.size : Int) ≤ 20020) by omega) with h | ⟨h, h2⟩ | ⟨h, h2, h3⟩ | ⟨h, h2, h3⟩
  all_goals
    go_enter Tryz.func30, Tryz.ntmps30
    go_wp2_with fail
    go_ret
    exact ⟨ret_bool (by rw [Bool.eq_iff_iff]; simp; omega), rfl⟩
end Go.Proofs.YteknngncnbfbnaaGreatDoor
