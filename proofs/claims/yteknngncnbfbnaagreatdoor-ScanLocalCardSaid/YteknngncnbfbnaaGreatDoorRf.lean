/- The reference's classes, spans, words and brands. -/
import Derived.Test.YteknngncnbfbnaaGreatDoorPr
import Derived.RangeFuncNested
import Derived.RangeFuncBound
import Derived.RangeFuncCalls
import Derived.RangeFuncLeaves
import Derived.RangeFuncBox
import Derived.Shelf.Abstract
import Derived.WalkKit
import Derived.OwnWalkIn
import Derived.TacticsInMore
import Derived.LoopNIn
import Derived.LoopIn
import Derived.RecoverIn
import Derived.Maps.AppendAt
import Derived.Outline
import Derived.Handy
import Derived.Deep.LoopGhost
import Derived.RegionTactic
import Derived.ChangeAlike
import Derived.Deep.QuietTactic
import Derived.BigQuiet
import Derived.StillTailTactics
import Derived.Deep.RegionWith
import Derived.LoopTactic
import Derived.OwnWalk
import Derived.Deep.AppendLies
import Derived.Deep.DeepCutAuto
import Derived.KernelRfl
import Derived.KernelRfl
namespace Go.Proofs.YteknngncnbfbnaaGreatDoor
open Go Go.RowKit Go.Shelf
/-- What a byte is, in the reference's words. -/
def clsI (c : Int) : Int := if c = 32 ∨ c = 9 ∨ c = 10 then 98 else if letB c then 97 else if digB c then 100 else 111
theorem class_any (c : Nat) (_hc : c < 256) (w : World) : Calls Tryz.prog 49 #[.int .u8 c] w fun e w' => e = .returned (.int .u8 (clsI c)) ∧ w = w' := by
  by_cases h1 : (c : Int) = 32 ∨ (c : Int) = 9 ∨ (c : Int) = 10
  · have HC := Lib.hid (show clsI c = 98 by unfold clsI; rw [if_pos h1])
    rcases h1 with h1 | h1 | h1
    all_goals
      rw [h1] at HC ⊢
      go_enter Tryz.func49, Tryz.ntmps49
      go_wp2
      go_ret
      exact ⟨by rw [HC.out]; rfl, rfl⟩
  · have n1 : ((c : Int) == 32) = false := by simp; omega
    have n2 : ((c : Int) == 9) = false := by simp; omega
    have n3 : ((c : Int) == 10) = false := by simp; omega
    rcases (show (c : Int) < 48 ∨ (48 ≤ (c : Int) ∧ (c : Int) ≤ 57) ∨ (57 < (c : Int) ∧ (c : Int) < 65) ∨ (65 ≤ (c : Int) ∧ (c : Int) ≤ 90) ∨ (90 < (c : Int) ∧ (c : Int) < 97) ∨ (97 ≤ (c : Int) ∧ (c : Int) ≤ 122) ∨ 122 < (c : Int) by omega) with h | ⟨h, h'⟩ | ⟨h, h'⟩ | ⟨h, h'⟩ | ⟨h, h'⟩ | ⟨h, h'⟩ | h
    · have HC := Lib.hid (show clsI c = 111 by unfold clsI letB digB; rw [if_neg h1]; simp; omega)
      clear h1
      go_enter Tryz.func49, Tryz.ntmps49
      go_wp2_with fail
      go_ret
      exact ⟨by rw [HC.out]; rfl, rfl⟩
    · have HC := Lib.hid (show clsI c = 100 by unfold clsI letB digB; rw [if_neg h1]; simp; omega)
      clear h1
      go_enter Tryz.func49, Tryz.ntmps49
      go_wp2_with fail
      go_ret
      exact ⟨by rw [HC.out]; rfl, rfl⟩
    · have HC := Lib.hid (show clsI c = 111 by unfold clsI letB digB; rw [if_neg h1]; simp; omega)
      clear h1
      go_enter Tryz.func49, Tryz.ntmps49
      go_wp2_with fail
      go_ret
      exact ⟨by rw [HC.out]; rfl, rfl⟩
    · have HC := Lib.hid (show clsI c = 97 by unfold clsI letB digB; rw [if_neg h1]; simp; omega)
      clear h1
      go_enter Tryz.func49, Tryz.ntmps49
      go_wp2_with fail
      go_ret
      exact ⟨by rw [HC.out]; rfl, rfl⟩
    · have HC := Lib.hid (show clsI c = 111 by unfold clsI letB digB; rw [if_neg h1]; simp; omega)
      clear h1
      go_enter Tryz.func49, Tryz.ntmps49
      go_wp2_with fail
      go_ret
      exact ⟨by rw [HC.out]; rfl, rfl⟩
    · have HC := Lib.hid (show clsI c = 97 by unfold clsI letB digB; rw [if_neg h1]; simp; omega)
      clear h1
      go_enter Tryz.func49, Tryz.ntmps49
      go_wp2_with fail
      go_ret
      exact ⟨by rw [HC.out]; rfl, rfl⟩
    · have HC := Lib.hid (show clsI c = 111 by unfold clsI letB digB; rw [if_neg h1]; simp; omega)
      clear h1
      go_enter Tryz.func49, Tryz.ntmps49
      go_wp2_with fail
      go_ret
      exact ⟨by rw [HC.out]; rfl, rfl⟩
def isOne (a b : Int) (c : Int) : Bool := clsI c == a || clsI c == b
theorem clsI_u8 (c : Int) : 0 ≤ clsI c ∧ clsI c < 256 := by unfold clsI; split <;> (try split) <;> (try split) <;> decide
theorem span_any (s : ByteArray) (hs : s.size ≤ 9223372036854775807) (a b : Nat) (w : World) : Calls Tryz.prog 50 #[.string s, .int .u8 a, .int .u8 b] w fun e w' => e = .returned (.int .i64 (spn (isOne a b) (bs s))) ∧ w = w' := by
  go_enter Tryz.func50, Tryz.ntmps50
  go_wp2
  go_loopw [7] (fun i wr => ∃ k : Nat, k ≤ s.size ∧ i = .int .i64 k ∧ wr = w ∧ spn (isOne a b) (bs s) = k + spn (isOne a b) ((bs s).drop k)) (fun i _ => s.size - (intOf i).toNat)
  case atStart => exact ⟨0, Nat.zero_le _, rfl, rfl, by simp⟩
  case round =>
    obtain ⟨k, hk, rfl, rfl, hf⟩ := hrel
    by_cases hlt : k < s.size
    · have hcl := class_any s[k].toNat (by have := s[k].toNat_lt; omega) wr
      have HC := hide hcl
      clear hcl
      by_cases hin : isOne a b s[k].toNat = true
      · have HF := Lib.hid (show spn (isOne a b) (bs s) = (k + 1) + spn (isOne a b) ((bs s).drop (k + 1)) by rw [hf, spn_at hlt hin]; omega)
        clear hf
        unfold isOne at hin
        generalize clsI (s[k].toNat : Int) = v at HC hin
        by_cases hv : v = a
        · have hva : (v != (a : Int)) = false := by simp [hv]
          go_wp2_with (go_at_call 49; refine (unhide HC).mono ?_; rintro e w1 ⟨rfl, rfl⟩)
          go_roundw
          case rel => exact ⟨k + 1, by omega, by go_num, trivial, HF.out⟩
          case measure => simp [intOf]; omega
        · have hvb : v = b := by simp [hv] at hin; exact hin
          have hva : (v != (a : Int)) = true := by simp [hv]
          have hvb' : (v != (b : Int)) = false := by simp [hvb]
          go_wp2_with (go_at_call 49; refine (unhide HC).mono ?_; rintro e w1 ⟨rfl, rfl⟩)
          go_roundw
          case rel => exact ⟨k + 1, by omega, by go_num, trivial, HF.out⟩
          case measure => simp [intOf]; omega
      · have HF := Lib.hid (show spn (isOne a b) (bs s) = k by rw [hf, spn_off (by rw [onB_at hlt]; simpa using hin)]; rfl)
        clear hf
        unfold isOne at hin
        generalize clsI (s[k].toNat : Int) = v at HC hin
        simp at hin
        have hva : (v != (a : Int)) = true := by simp [hin.1]
        have hvb : (v != (b : Int)) = true := by simp [hin.2]
        go_wp2_with (go_at_call 49; refine (unhide HC).mono ?_; rintro e w1 ⟨rfl, rfl⟩)
        go_ret
        exact ⟨by rw [HF.out]; rfl, rfl⟩
    · obtain rfl : k = s.size := by omega
      have HF := Lib.hid (show spn (isOne a b) (bs s) = s.size by rw [hf, List.drop_eq_nil_of_le (by rw [bs_len]; exact Nat.le_refl _)]; rfl)
      go_wp2
      go_ret
      exact ⟨by rw [HF.out]; rfl, rfl⟩
theorem allB_spn (p : Int → Bool) (l : List UInt8) : allB p l = decide (spn p l = l.length) := by
  induction l with
  | nil => rfl
  | cons c l ih =>
    have h := spn_le p l
    have e : spn p (c :: l) = if p c.toNat then spn p l + 1 else 0 := rfl
    have e2 : allB p (c :: l) = (p c.toNat && allB p l) := rfl
    rw [e, e2, ih]
    by_cases hc : p c.toNat = true
    · simp [hc]
    · have hc' : p c.toNat = false := by simpa using hc
      simp [hc']
def brandR (l : List UInt8) : Bool := allB brnB l && (decide (0 < l.length) && decide (l.length ≤ 20))
theorem brandR_eq (l : List UInt8) : brandR l = brandB l := by
  unfold brandR brandB
  by_cases h1 : l = []
  · subst h1; rfl
  · have : 0 < l.length := List.length_pos_iff.2 h1
    rw [if_neg h1]
    by_cases h2 : 20 < l.length
    · rw [if_pos h2]; simp; omega
    · rw [if_neg h2]; simp [this]; omega
theorem refBrand_any (s : ByteArray) (hs : s.size ≤ 9223372036854775807) (w : World) : Calls Tryz.prog 24 #[.string s] w fun e w' => e = .returned (.bool (brandB (bs s))) ∧ w = w' := by
  rw [← brandR_eq]
  go_enter Tryz.func24, Tryz.ntmps24
  go_wp2
  go_loopw [3] (fun i wr => ∃ k : Nat, k ≤ s.size ∧ i = .int .i64 k ∧ wr = w ∧ spn brnB (bs s) = k + spn brnB ((bs s).drop k)) (fun i _ => s.size - (intOf i).toNat)
  case atStart => exact ⟨0, Nat.zero_le _, rfl, rfl, by simp⟩
  case round =>
    obtain ⟨k, hk, rfl, rfl, hf⟩ := hrel
    by_cases hlt : k < s.size
    · have h256 := s[k].toNat_lt
      by_cases hin : brnB s[k].toNat = true
      · have HF := Lib.hid (show spn brnB (bs s) = (k + 1) + spn brnB ((bs s).drop (k + 1)) by rw [hf, spn_at hlt hin]; omega)
        clear hf
        unfold brnB at hin
        generalize hc : (s[k].toNat : Int) = c at hin
        simp at hin
        have c1 : ¬ c < 32 := by omega
        have c2 : ¬ 126 < c := by omega
        have c3 : (c == 34) = false := by simp; omega
        go_wp2
        go_roundw
        case rel => exact ⟨k + 1, by omega, by go_num, trivial, HF.out⟩
        case measure => simp [intOf]; omega
      · have hz : spn brnB (bs s) = k := by rw [hf, spn_off (by rw [onB_at hlt]; simpa using hin)]; rfl
        have HF := Lib.hid (show brandR (bs s) = false by
          unfold brandR
          rw [allB_spn, hz, bs_len]
          simp; omega)
        clear hf hz
        unfold brnB at hin
        generalize hc : (s[k].toNat : Int) = c at hin
        simp at hin
        rcases (show c < 32 ∨ (32 ≤ c ∧ 126 < c) ∨ (32 ≤ c ∧ c ≤ 126 ∧ c = 34) by omega) with c1 | ⟨c0, c1⟩ | ⟨c0, c1, c2⟩
        · go_wp2_with fail
          go_ret
          exact ⟨by rw [HF.out]; rfl, rfl⟩
        · go_wp2_with fail
          go_ret
          exact ⟨by rw [HF.out]; rfl, rfl⟩
        · subst c2
          go_wp2_with fail
          go_ret
          exact ⟨by rw [HF.out]; rfl, rfl⟩
    · obtain rfl : k = s.size := by omega
      have hz : spn brnB (bs s) = s.size := by rw [hf, List.drop_eq_nil_of_le (by rw [bs_len]; exact Nat.le_refl _)]; rfl
      have HF := Lib.hid (show brandR (bs s) = (decide (0 < s.size) && decide (s.size ≤ 20)) by
        unfold brandR
        rw [allB_spn, hz, bs_len]
        simp)
      go_wp2
      all_goals
        go_ret
        exact ⟨ret_bool (by rw [HF.out, Bool.eq_iff_iff]; simp; omega), rfl⟩

theorem among_any (s : ByteArray) (xs : List (List UInt8)) (N : Nat) (cap : Nat) (hl : xs.length ≤ 1000) (w : World) (hB : Blk w N (xs.map mkV) 9) : Calls Tryz.prog 53 #[.string s, .slice (some ⟨N, 0, none⟩) xs.length cap] w fun e w' => e = .returned (.bool (memB xs (bs s))) ∧ w = w' := by
  have HB := hide hB
  clear hB
  go_enter Tryz.func53, Tryz.ntmps53
  go_wp2
  go_loopw [5, 8] (fun _ i wr => ∃ k : Nat, k ≤ xs.length ∧ i = .int .i64 k ∧ wr = w ∧ bs s ∉ xs.take k) (fun _ i _ => xs.length - (intOf i).toNat)
  case atStart => exact ⟨0, Nat.zero_le _, rfl, rfl, by simp⟩
  case round =>
    obtain ⟨k, hk, rfl, rfl, hf⟩ := hrel
    by_cases hlt : k < xs.length
    · have hc : wr.cell? ⟨N, k, none⟩ = some (.string (mkS xs[k])) := by
        rw [(unhide HB).cell k, List.getElem?_map, List.getElem?_eq_getElem hlt]; rfl
      by_cases he : xs[k] = bs s
      · have HF := Lib.hid (show memB xs (bs s) = true by unfold memB; simp; rw [← he]; exact List.getElem_mem hlt)
        have e : mkS xs[k] = s := by apply bs_ext; rw [bs_mkS, he]
        rw [e] at hc
        clear hf e he
        go_wp2
        go_ret
        exact ⟨by rw [HF.out]; rfl, rfl⟩
      · have hne : ((mkS xs[k]).toList == s.toList) = false := by
          rw [toList_bs, toList_bs, bs_mkS]
          simpa using he
        have HT := Lib.hid (show bs s ∉ xs.take (k + 1) by
          rw [List.take_succ_eq_append_getElem hlt]
          simp only [List.mem_append, List.mem_singleton, not_or]
          exact ⟨hf, fun h => he h.symm⟩)
        clear hf he
        go_wp2
        go_roundw
        case rel => exact ⟨k + 1, by omega, by go_num, trivial, HT.out⟩
        case measure => simp [intOf]; omega
    · obtain rfl : k = xs.length := by omega
      have HF := Lib.hid (show memB xs (bs s) = false by unfold memB; rw [List.take_length] at hf; simpa using hf)
      clear hf
      go_wp2
      go_ret
      exact ⟨by rw [HF.out]; rfl, rfl⟩
theorem refWord_any (s : ByteArray) (w : World) : Calls Tryz.prog 22 #[.string s] w fun e w' => e = .returned (.bool (memB wordsL (bs s))) ∧ Below w.heap.size w w' := by
  have H1 := hide (refWords_any w)
  have h2 := among_any s wordsL w.heap.size 63 (by rw [wordsL_len]; decide) (w.alloc (.cells (wordsL.map mkV).toArray 9)) (Blk.new w (wordsL.map mkV) 9)
  rw [wordsL_len] at h2
  have hb : Below w.heap.size w (w.alloc (.cells (wordsL.map mkV).toArray 9)) := (Below.refl _ _).alloc (Nat.le_refl _) _
  generalize memB wordsL (bs s) = r at h2 ⊢
  generalize w.alloc (.cells (wordsL.map mkV).toArray 9) = W at H1 h2 hb
  have H2 := hide h2
  clear h2
  go_enter Tryz.func22, Tryz.ntmps22
  go_wp2_with (first | (go_at_call 16; refine (unhide H1).mono ?_; rintro e w1 ⟨rfl, rfl⟩) | (go_at_call 53; refine (unhide H2).mono ?_; rintro e w2 ⟨rfl, rfl⟩))
  go_ret
  exact ⟨rfl, hb⟩
end Go.Proofs.YteknngncnbfbnaaGreatDoor
