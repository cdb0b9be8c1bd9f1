/- The reference's names, and lists that are compared. -/
import Derived.Test.YteknngncnbfbnaaGreatDoorRf
import Derived.RangeFuncNested
import Derived.RangeFuncBound
import Derived.RangeFuncCalls
import Derived.RangeFuncLeaves
import Derived.RangeFuncBox
import Derived.Shelf.Abstract
import Derived.WalkKit
import Derived.OwnWalkIn
import Derived.TacticsInMore
import Derived.LoopNIn
import Derived.LoopIn
import Derived.RecoverIn
import Derived.Maps.AppendAt
import Derived.Outline
import Derived.Handy
import Derived.Deep.LoopGhost
import Derived.RegionTactic
import Derived.ChangeAlike
import Derived.Deep.QuietTactic
import Derived.BigQuiet
import Derived.StillTailTactics
import Derived.Deep.RegionWith
import Derived.LoopTactic
import Derived.OwnWalk
import Derived.Deep.AppendLies
import Derived.Deep.DeepCutAuto
import Derived.KernelRfl
import Derived.KernelRfl
namespace Go.Proofs.YteknngncnbfbnaaGreatDoor
open Go Go.RowKit Go.Shelf
theorem cls_a (c : Int) : (clsI c == 97) = letB c := by
  unfold clsI letB digB
  rw [Bool.eq_iff_iff]
  simp
  split
  · simp; omega
  · split
    · simp; omega
    · split <;> simp <;> omega
theorem one_aln (c : Int) : isOne 97 100 c = alnB c := by
  unfold isOne clsI alnB letB digB
  rw [Bool.eq_iff_iff]
  simp
  split
  · simp; omega
  · split
    · simp; omega
    · split
      · simp; omega
      · simp; omega
theorem onB_zero {p : Int → Bool} {s : ByteArray} (h : 0 < s.size) : onB p (bs s) = p s[0].toNat := by
  have := onB_at (p := p) h
  simpa using this
theorem refName_any (s : ByteArray) (hs : s.size ≤ 9223372036854775807) (w : World) : Calls Tryz.prog 20 #[.string s] w fun e w' => e = .returned (.bool (nameB (bs s))) ∧ Below w.heap.size w w' := by
  by_cases he : bs s = []
  · have HE := Lib.hid (show nameB (bs s) = false by unfold nameB; exact if_pos he)
    have hz : s = ⟨#[]⟩ := by apply bs_ext; rw [he]; rfl
    subst hz
    go_enter Tryz.func20, Tryz.ntmps20
    go_wp2
    go_ret
    exact ⟨by rw [HE.out]; rfl, Below.refl _ _⟩
  · have hpos : 0 < s.size := by rw [← bs_len]; exact List.length_pos_iff.2 he
    have hne : (s.toList == []) = false := by
      rw [toList_bs]
      cases h : bs s with
      | nil => exact absurd h he
      | cons c l => rfl
    have hnm : nameB (bs s) = (decide (s.size ≤ 12) && (letB s[0].toNat && (decide (spn (isOne 97 100) (bs s) = s.size) && !memB wordsL (bs s)))) := by
      unfold nameB
      rw [if_neg he, onB_zero hpos, allB_spn, bs_len, show isOne 97 100 = alnB from funext one_aln]
      by_cases h12 : 12 < s.size
      · rw [if_pos h12]; simp; omega
      · rw [if_neg h12]; simp; omega
    have H1 := hide (fun W => class_any s[0].toNat (by have := s[0].toNat_lt; omega) W)
    have H2 := hide (fun W => span_any s hs 97 100 W)
    have H3 := hide (refWord_any s w)
    have hca := cls_a s[0].toNat
    rw [show (((97 : Nat) : Int)) = 97 from rfl, show (((100 : Nat) : Int)) = 100 from rfl] at H2
    revert H1 H2 H3 hca hnm
    generalize letB s[0].toNat = L
    generalize clsI s[0].toNat = C
    generalize spn (isOne 97 100) (bs s) = n
    generalize memB wordsL (bs s) = M
    intro hnm H1 H2 H3 hca
    have HN := Lib.hid hnm
    clear hnm
    cases L with
    | false =>
      go_enter Tryz.func20, Tryz.ntmps20
      go_wp2_with (go_at_call 49; refine (unhide H1 _).mono ?_; rintro e w1 ⟨rfl, rfl⟩)
      go_ret
      exact ⟨ret_bool (by rw [HN.out]; simp), Below.refl _ _⟩
    | true =>
      by_cases hn : n = s.size
      · have hns : ((n : Int) == (s.size : Int)) = true := by simp [hn]
        by_cases h12 : s.size ≤ 12
        · have h12' : (s.size : Int) ≤ 12 := by omega
          go_enter Tryz.func20, Tryz.ntmps20
          go_wp2_with (first | (go_at_call 49; refine (unhide H1 _).mono ?_; rintro e w1 ⟨rfl, rfl⟩) | (go_at_call 50; refine (unhide H2 _).mono ?_; rintro e w2 ⟨rfl, rfl⟩) | (go_at_call 22; refine (unhide H3).mono ?_; rintro e w3 ⟨rfl, hb⟩))
          go_ret
          exact ⟨ret_bool (by rw [HN.out]; simp [hn, h12]), hb⟩
        · have h12' : ¬ (s.size : Int) ≤ 12 := by omega
          go_enter Tryz.func20, Tryz.ntmps20
          go_wp2_with (first | (go_at_call 49; refine (unhide H1 _).mono ?_; rintro e w1 ⟨rfl, rfl⟩) | (go_at_call 50; refine (unhide H2 _).mono ?_; rintro e w2 ⟨rfl, rfl⟩))
          go_ret
          exact ⟨ret_bool (by rw [HN.out]; simp [h12]), Below.refl _ _⟩
      · have hns : ((n : Int) == (s.size : Int)) = false := by simp; omega
        go_enter Tryz.func20, Tryz.ntmps20
        go_wp2_with (first | (go_at_call 49; refine (unhide H1 _).mono ?_; rintro e w1 ⟨rfl, rfl⟩) | (go_at_call 50; refine (unhide H2 _).mono ?_; rintro e w2 ⟨rfl, rfl⟩))
        go_ret
        exact ⟨ret_bool (by rw [HN.out]; simp [hn]), Below.refl _ _⟩

theorem same_any (xs : List (List UInt8)) (N N2 cap cap2 : Nat) (hl : xs.length ≤ 1000) (w : World) (hB : Blk w N (xs.map mkV) 9) (hB2 : Blk w N2 (xs.map mkV) 9) : Calls Tryz.prog 14 #[.slice (some ⟨N, 0, none⟩) xs.length cap, .slice (some ⟨N2, 0, none⟩) xs.length cap2] w fun e w' => e = .returned (.bool true) ∧ ∃ n, w' = w.drewN n := by
  have HB := hide hB
  have HB2 := hide hB2
  clear hB hB2
  go_enter Tryz.func14, Tryz.ntmps14
  go_wp2
  go_loopw [5, 8] (fun _ i wr => ∃ k n : Nat, k ≤ xs.length ∧ i = .int .i64 k ∧ wr = w.drewN n) (fun _ i _ => xs.length - (intOf i).toNat)
  case atStart => exact ⟨0, 0, Nat.zero_le _, rfl, rfl⟩
  case round =>
    obtain ⟨k, n, hk, rfl, rfl⟩ := hrel
    by_cases hlt : k < xs.length
    · have hc : w.cell? ⟨N, k, none⟩ = some (.string (mkS xs[k])) := by
        rw [(unhide HB).cell k, List.getElem?_map, List.getElem?_eq_getElem hlt]; rfl
      have hc2 : w.cell? ⟨N2, k, none⟩ = some (.string (mkS xs[k])) := by
        rw [(unhide HB2).cell k, List.getElem?_map, List.getElem?_eq_getElem hlt]; rfl
      generalize mkS xs[k] = t at hc hc2
      go_wp2
      go_quiet (fail)
      go_wp2
      go_roundw
      case rel => exact ⟨k + 1, n + nq, by omega, by go_num, by simp⟩
      case measure => simp [intOf]; omega
    · obtain rfl : k = xs.length := by omega
      go_wp2
      go_ret
      exact ⟨rfl, n, rfl⟩
end Go.Proofs.YteknngncnbfbnaaGreatDoor
