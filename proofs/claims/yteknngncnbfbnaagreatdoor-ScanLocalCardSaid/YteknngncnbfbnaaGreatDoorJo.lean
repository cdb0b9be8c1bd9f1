/- joined hands back the texts of pieces, one behind the other. -/
import Derived.Test.YteknngncnbfbnaaGreatDoorSb
import Derived.RangeFuncNested
import Derived.RangeFuncBound
import Derived.RangeFuncCalls
import Derived.RangeFuncLeaves
import Derived.RangeFuncBox
import Derived.Shelf.Abstract
import Derived.WalkKit
import Derived.OwnWalkIn
import Derived.TacticsInMore
import Derived.LoopNIn
import Derived.LoopIn
import Derived.RecoverIn
import Derived.Maps.AppendAt
import Derived.Outline
import Derived.Handy
import Derived.Deep.LoopGhost
import Derived.RegionTactic
import Derived.ChangeAlike
import Derived.Deep.QuietTactic
import Derived.BigQuiet
import Derived.StillTailTactics
import Derived.Deep.RegionWith
import Derived.LoopTactic
import Derived.OwnWalk
import Derived.Deep.AppendLies
import Derived.Deep.DeepCutAuto
import Derived.KernelRfl
namespace Go.Proofs.YteknngncnbfbnaaGreatDoor
open Go Go.RowKit Go.Shelf
theorem cat_snoc (xs : List Bit) (x : Bit) : cat (xs ++ [x]) = cat xs ++ bs x.2 := by rw [cat_app, cat_cons]; simp [cat]
theorem cat_take_le (xs : List Bit) (k : Nat) : (cat (xs.take k)).length ≤ (cat xs).length := by
  conv => rhs; rw [← List.take_append_drop k xs, cat_app, List.length_append]
  omega
theorem cat_piece_le {xs : List Bit} {k : Nat} (h : k < xs.length) : (cat (xs.take k)).length + xs[k].2.size ≤ (cat xs).length := by
  have h1 := cat_take_le xs (k + 1)
  rw [List.take_succ_eq_append_getElem h, cat_snoc, List.length_append, bs_len] at h1
  exact h1
set_option maxHeartbeats 800000 in
theorem joined_any (xs : List Bit) (A : Option Addr) (cap : Nat) (hl : xs.length ≤ 100000) (hc : (cat xs).length ≤ 100000) (w : World) (hA : Bits w A xs) : Calls Tryz.prog 44 #[.slice A xs.length cap] w fun e w' => e = .returned (.string (mkS (cat xs))) ∧ w = w' := by
  have HA := hide hA
  clear hA
  go_enter Tryz.func44, Tryz.ntmps44
  go_wp2
  go_loopw [3, 7] (fun t i wr => ∃ k : Nat, k ≤ xs.length ∧ i = .int .i64 k ∧ t = .string (mkS (cat (xs.take k))) ∧ wr = w) (fun _ i _ => xs.length - (intOf i).toNat)
  case atStart => exact ⟨0, Nat.zero_le _, rfl, rfl, rfl⟩
  case round =>
    obtain ⟨k, hk, rfl, rfl, rfl⟩ := hrel
    by_cases hlt : k < xs.length
    · obtain ⟨g, rfl, hg, _, c1⟩ := unhide HA k _ (List.getElem?_eq_getElem hlt)
      have hle := cat_piece_le hlt
      have HS := Lib.hid (show cat (xs.take (k + 1)) = cat (xs.take k) ++ bs xs[k].2 by rw [List.take_succ_eq_append_getElem hlt, cat_snoc])
      revert c1 hle HS
      generalize xs[k].2 = u
      generalize cat (xs.take k) = pre
      intro c1 hle HS
      have hs1 : (mkS pre).size ≤ 100000 := by rw [← bs_len, bs_mkS]; omega
      have hs2 : u.size ≤ 100000 := by omega
      have hcat : mkS pre ++ u = mkS (pre ++ bs u) := by apply bs_ext; rw [bs_app, bs_mkS, bs_mkS]
      clear hle
      go_wp2
      go_roundw
      case rel => exact ⟨k + 1, by omega, by go_num, by rw [HS.out], trivial⟩
      case measure => simp [intOf]; omega
    · obtain rfl : k = xs.length := by omega
      rw [List.take_length]
      go_wp2
      go_ret
      exact ⟨rfl, rfl⟩
end Go.Proofs.YteknngncnbfbnaaGreatDoor
