/- IsBrand, IsWord and IsName, for every string whose length an int can count; strings.asciiSpace is taken as laid. -/
import Derived.Test.YteknngncnbfbnaaGreatDoorNv
import Derived.Tactics
import Derived.Tactics2
import Derived.WalkKit
import Derived.LoopTactic
import Derived.Outline
import Derived.Lib.Hide
import Derived.Handy
import Derived.KernelRfl
import Derived.Deep.LoopGhost
import Derived.CallsIn
import Derived.Deep.QuietTactic
import Derived.BigQuiet
import Derived.Deep.Draws
import Derived.WalkSpells
import Derived.Lib.Walk
import Derived.Lib.Strings
import Derived.Maps.OwnOps
import Derived.Maps.OwnSet
import Derived.Deep.RegionWith
import Derived.StillTailTactics
import Derived.WalkMore
namespace Go.Proofs.YteknngncnbfbnaaGreatDoor
open Go Go.RowKit

def brandB (l : List UInt8) : Bool := if l = [] then false else if 20 < l.length then false else allB brnB l
theorem isBrand_any (s : ByteArray) (hs : s.size ≤ maxLen) (w : World) :
    Calls Tryz.prog 23 #[.string s] w fun e w' => e = .returned (.bool (brandB (bs s))) ∧ w = w' := by
  by_cases he : bs s = []
  · have hz : s.toList = [] := by rw [toList_bs]; exact he
    have HE : Hid (brandB (bs s) = false) := by unfold brandB; exact if_pos he
    clear he
    go_enter Tryz.func23, Tryz.ntmps23
    go_wp2_with fail
    go_ret
    exact ⟨ret_bool (by rw [HE.out]), rfl⟩
  · have hz : s.toList.isEmpty = false := by rw [toList_bs]; simpa using he
    by_cases h20 : 20 < s.size
    · have HE : Hid (brandB (bs s) = false) := by unfold brandB; exact (if_neg he).trans (if_pos (by rw [bs_len]; exact h20))
      clear he
      go_enter Tryz.func23, Tryz.ntmps23
      go_wp2_with fail
      go_ret
      exact ⟨ret_bool (by rw [HE.out]), rfl⟩
    · have HE : Hid (brandB (bs s) = allB brnB (bs s)) := by unfold brandB; exact (if_neg he).trans (if_neg (by rw [bs_len]; exact h20))
      clear he
      go_enter Tryz.func23, Tryz.ntmps23
      go_wp2_with (go_at_call 47; refine (all_brn s hs _).mono ?_; rintro e w' ⟨rfl, rfl⟩)
      go_ret
      exact ⟨ret_bool HE.out.symm, rfl⟩
theorem wordsL_form : (wordsL.all fun l => decide (2 ≤ l.length) && decide (l.length ≤ 9) && allB capB l) = true := by kernel_rfl
theorem memW_form {l : List UInt8} (h : memB wordsL l = true) : 2 ≤ l.length ∧ l.length ≤ 9 ∧ allB capB l = true := by
  have := List.all_eq_true.1 wordsL_form l (of_decide_eq_true h)
  simp only [Bool.and_eq_true, decide_eq_true_eq] at this
  exact ⟨this.1.1, this.1.2, this.2⟩
theorem memW_no {l : List UInt8} (h : l.length < 2 ∨ 9 < l.length ∨ allB capB l = false) : memB wordsL l = false := by
  rw [Bool.eq_false_iff]
  intro hm
  obtain ⟨h1, h2, h3⟩ := memW_form hm
  rcases h with h | h | h
  · omega
  · omega
  · rw [h3] at h; cases h
theorem isWord_any (s : ByteArray) (hs : s.size ≤ maxLen) (w : World) (hE : Env w) :
    Calls Tryz.prog 21 #[.string s] w fun e w' => e = .returned (.bool (memB wordsL (bs s))) ∧ Below w.heap.size w w' := by
  by_cases h2 : s.size < 2
  · have HE := Lib.hid (memW_no (l := bs s) (.inl (by rw [bs_len]; exact h2)))
    go_enter Tryz.func21, Tryz.ntmps21
    go_wp2_with fail
    go_ret
    exact ⟨ret_bool (by rw [HE.out]), Below.refl _ _⟩
  · by_cases h9 : 9 < s.size
    · have HE := Lib.hid (memW_no (l := bs s) (.inr (.inl (by rw [bs_len]; exact h9))))
      go_enter Tryz.func21, Tryz.ntmps21
      go_wp2_with fail
      go_ret
      exact ⟨ret_bool (by rw [HE.out]), Below.refl _ _⟩
    · cases ha : allB capB (bs s) with
      | false =>
        have HE := Lib.hid (memW_no (l := bs s) (.inr (.inr ha)))
        have hc := all_cap s hs
        rw [ha] at hc
        clear ha
        go_enter Tryz.func21, Tryz.ntmps21
        go_wp2_with (go_at_call 47; refine (hc _).mono ?_; rintro e w' ⟨rfl, rfl⟩)
        go_ret
        exact ⟨ret_bool (by rw [HE.out]), Below.refl _ _⟩
      | true =>
        have hc := all_cap s hs
        rw [ha] at hc
        clear ha
        go_enter Tryz.func21, Tryz.ntmps21
        go_wp2_with (first | (go_at_call 47; refine (hc _).mono ?_; rintro e w' ⟨rfl, rfl⟩) | (go_at_call 52; refine (wordSet_any _ hE).mono ?_; rintro e w1 ⟨rfl, hW, hB⟩; have hl := hW.run s hs))
        go_ret
        exact ⟨rfl, hB⟩
def nameB (l : List UInt8) : Bool := if l = [] then false else if 12 < l.length then false else onB letB l && (allB alnB l && !memB wordsL l)
set_option maxHeartbeats 800000 in
theorem isName_any (s : ByteArray) (hs : s.size ≤ maxLen) (w : World) (hE : Env w) :
    Calls Tryz.prog 19 #[.string s] w fun e w' => e = .returned (.bool (nameB (bs s))) ∧ Below w.heap.size w w' := by
  by_cases he : bs s = []
  · have hz : s.toList = [] := by rw [toList_bs]; exact he
    have HE : Hid (nameB (bs s) = false) := by unfold nameB; exact if_pos he
    clear he
    go_enter Tryz.func19, Tryz.ntmps19
    go_wp2_with fail
    go_ret
    exact ⟨ret_bool (by rw [HE.out]), Below.refl _ _⟩
  · have hz : s.toList.isEmpty = false := by rw [toList_bs]; simpa using he
    have hpos : 0 < s.size := by
      rw [← bs_len]
      exact List.length_pos_iff.2 he
    by_cases h12 : 12 < s.size
    · have HE : Hid (nameB (bs s) = false) := by unfold nameB; exact (if_neg he).trans (if_pos (by rw [bs_len]; exact h12))
      clear he
      go_enter Tryz.func19, Tryz.ntmps19
      go_wp2_with fail
      go_ret
      exact ⟨ret_bool (by rw [HE.out]), Below.refl _ _⟩
    · have HE : nameB (bs s) = (letB s[0].toNat && (allB alnB (bs s) && !memB wordsL (bs s))) := by
        unfold nameB
        refine (if_neg he).trans ((if_neg (by rw [bs_len]; exact h12)).trans ?_)
        rw [show onB letB (bs s) = letB s[0].toNat from onB_at (p := letB) (s := s) (k := 0) hpos]
      clear he
      cases hl : letB s[0].toNat with
      | false =>
        rw [hl] at HE
        have HE' : Hid (nameB (bs s) = false) := HE
        clear HE
        go_enter Tryz.func19, Tryz.ntmps19
        go_wp2_with (go_at_call 46; refine (isLetter_any _ _).mono ?_; rintro e w' ⟨rfl, rfl⟩)
        go_ret
        exact ⟨ret_bool (by rw [HE'.out]), Below.refl _ _⟩
      | true =>
        rw [hl] at HE
        cases ha : allB alnB (bs s) with
        | false =>
          rw [ha] at HE
          have HE' : Hid (nameB (bs s) = false) := HE
          clear HE
          have hc := all_aln s hs
          rw [ha] at hc
          clear ha
          go_enter Tryz.func19, Tryz.ntmps19
          go_wp2_with (first | (go_at_call 46; refine (isLetter_any _ _).mono ?_; rintro e w' ⟨rfl, rfl⟩) | (go_at_call 47; refine (hc _).mono ?_; rintro e w' ⟨rfl, rfl⟩))
          go_ret
          exact ⟨ret_bool (by rw [HE'.out]), Below.refl _ _⟩
        | true =>
          rw [ha] at HE
          have HE' : Hid (nameB (bs s) = !memB wordsL (bs s)) := HE
          clear HE
          have hc := all_aln s hs
          rw [ha] at hc
          clear ha
          go_enter Tryz.func19, Tryz.ntmps19
          go_wp2_with (first | (go_at_call 46; refine (isLetter_any _ _).mono ?_; rintro e w' ⟨rfl, rfl⟩) | (go_at_call 47; refine (hc _).mono ?_; rintro e w' ⟨rfl, rfl⟩) | (go_at_call 21; refine (isWord_any _ hs _ hE).mono ?_; rintro e w1 ⟨rfl, hB⟩))
          go_ret
          exact ⟨ret_bool HE'.out.symm, hB⟩
end Go.Proofs.YteknngncnbfbnaaGreatDoor
