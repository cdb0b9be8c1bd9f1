/- ScanSpots' function returns true, whatever it is called with (where the variables it reads hold what the program's text lays). -/
import Derived.Test.YteknngncnbfbnaaGreatDoorRs
import Derived.Test.YteknngncnbfbnaaGreatDoorLw
import Derived.RangeFuncNested
import Derived.RangeFuncBound
import Derived.RangeFuncCalls
import Derived.RangeFuncLeaves
import Derived.RangeFuncBox
import Derived.Shelf.Abstract
import Derived.WalkKit
import Derived.OwnWalkIn
import Derived.TacticsInMore
import Derived.LoopNIn
import Derived.LoopIn
import Derived.RecoverIn
import Derived.Maps.AppendAt
import Derived.Outline
import Derived.Handy
import Derived.Deep.LoopGhost
import Derived.RegionTactic
import Derived.ChangeAlike
import Derived.Deep.QuietTactic
import Derived.BigQuiet
import Derived.StillTailTactics
import Derived.Deep.RegionWith
import Derived.LoopTactic
import Derived.OwnWalk
import Derived.Deep.AppendLies
import Derived.Deep.DeepCutAuto
import Derived.KernelRfl
namespace Go.Proofs.YteknngncnbfbnaaGreatDoor
open Go Go.RowKit Go.Shelf
set_option maxRecDepth 100000 in
set_option maxHeartbeats 2000000 in
theorem spots_tt (s : ByteArray) (at_ line column : Int) (w : World) (hE : Env w) (hD : Db w) (hf : s.size ≤ 1200 ∨ (20000 < s.size ∧ s.size ≤ 20020)) (he : (spotR s at_).2.2 = 0) (hg : (placeR s line column).2 = 0) :
    Calls Tryz.prog 6 #[.string s, .int .i64 at_, .int .i64 line, .int .i64 column] w fun e w' => e = .returned (.bool true) ∧ Below w.heap.size w w' := by
    have h0 := fair_any s w
    rw [decide_eq_true hf] at h0
    have HF := hide h0
    have h1 := spot_any s at_ w
    have h2 := refSpot_any s at_ w
    obtain ⟨hs, hk0, hk⟩ := spotR_bad he
    have hps : placeR s (spotR s at_).1 (spotR s at_).2.1 = (at_, 0) := by
      obtain ⟨k, rfl⟩ : ∃ k : Nat, at_ = k := ⟨at_.toNat, by omega⟩
      exact place_spot hs (by omega)
    have hpl := fun W hE => place_any s (spotR s at_).1 (spotR s at_).2.1 W hE
    rw [hps] at hpl
    have HPL := hide hpl
    rw [he] at h1 h2
    clear hpl hps he hs hk0 hk
    have HS1 := hide h1
    have HS2 := hide h2
    clear h0 h1 h2 hf
    revert HS1 HS2 HPL
    generalize (spotR s at_).1 = a
    generalize (spotR s at_).2.1 = b
    intro HPL HS1 HS2
    obtain ⟨x, hp⟩ : ∃ x, placeR s line column = (x, 0) := ⟨(placeR s line column).1, by rw [← hg]⟩
    obtain ⟨hsp, _, _⟩ := spot_place hp
    go_enter Tryz.func6, Tryz.ntmps6
    go_wp2_with fail
    refine (unhide HF).mono ?_
    rintro e0 w0 ⟨rfl, rfl⟩
    go_wp2_with fail
    refine (unhide HS1).mono ?_
    rintro e0 w0 ⟨rfl, rfl⟩
    go_wp2_with fail
    refine (unhide HS2).mono ?_
    rintro e0 w0 ⟨rfl, rfl⟩
    go_wp2_with fail
    refine (unhide HPL w hE).mono ?_
    rintro e1 W1 ⟨rfl, B1⟩
    have hE1 := hE.below B1 hE.sz
    have hD1 := hD.below B1 (Nat.le_trans (by decide) hE.sz)
    go_wp2_with fail
    refine (place_any s line column _ hE1).mono ?_
    rintro e2 W2 ⟨rfl, hb2⟩
    have B2 := B1.trans (hb2.mono B1.size)
    rw [hp]
    go_wp2_with fail
    refine (spot_any s x _).mono ?_
    rintro e3 W3 ⟨rfl, rfl⟩
    rw [hsp]
    go_wp2_with fail
    refine (divided_any _ (hE.below B2 hE.sz) (hD.below B2 (Nat.le_trans (by decide) hE.sz))).mono ?_
    rintro e4 W4 ⟨rfl, hb4⟩
    have B4 := B2.trans (hb4.mono B2.size)
    go_wp2_with fail
    go_ret
    exact ⟨ret_bool (by simp), B4⟩
set_option maxRecDepth 100000 in
set_option maxHeartbeats 2000000 in
theorem spots_tf (s : ByteArray) (at_ line column : Int) (w : World) (hE : Env w) (hD : Db w) (hf : s.size ≤ 1200 ∨ (20000 < s.size ∧ s.size ≤ 20020)) (he : (spotR s at_).2.2 = 0) (hg : ¬ (placeR s line column).2 = 0) :
    Calls Tryz.prog 6 #[.string s, .int .i64 at_, .int .i64 line, .int .i64 column] w fun e w' => e = .returned (.bool true) ∧ Below w.heap.size w w' := by
    have h0 := fair_any s w
    rw [decide_eq_true hf] at h0
    have HF := hide h0
    have h1 := spot_any s at_ w
    have h2 := refSpot_any s at_ w
    obtain ⟨hs, hk0, hk⟩ := spotR_bad he
    have hps : placeR s (spotR s at_).1 (spotR s at_).2.1 = (at_, 0) := by
      obtain ⟨k, rfl⟩ : ∃ k : Nat, at_ = k := ⟨at_.toNat, by omega⟩
      exact place_spot hs (by omega)
    have hpl := fun W hE => place_any s (spotR s at_).1 (spotR s at_).2.1 W hE
    rw [hps] at hpl
    have HPL := hide hpl
    rw [he] at h1 h2
    clear hpl hps he hs hk0 hk
    have HS1 := hide h1
    have HS2 := hide h2
    clear h0 h1 h2 hf
    revert HS1 HS2 HPL
    generalize (spotR s at_).1 = a
    generalize (spotR s at_).2.1 = b
    intro HPL HS1 HS2
    have hp0 : ∃ g, placeR s line column = (0, g) ∧ ¬ g = 0 := by
      unfold placeR at hg ⊢
      split
      · exact ⟨_, rfl, by decide⟩
      next h1 =>
        rw [if_neg h1] at hg
        split
        · exact ⟨_, rfl, by decide⟩
        next h2 =>
          rw [if_neg h2] at hg
          split
          · exact ⟨_, rfl, by decide⟩
          next h3 => rw [if_neg h3] at hg; exact absurd rfl hg
    obtain ⟨g, hp, hg⟩ := hp0
    have hgg : (g != 0) = true := by simpa using hg
    go_enter Tryz.func6, Tryz.ntmps6
    go_wp2_with fail
    refine (unhide HF).mono ?_
    rintro e0 w0 ⟨rfl, rfl⟩
    go_wp2_with fail
    refine (unhide HS1).mono ?_
    rintro e0 w0 ⟨rfl, rfl⟩
    go_wp2_with fail
    refine (unhide HS2).mono ?_
    rintro e0 w0 ⟨rfl, rfl⟩
    go_wp2_with fail
    refine (unhide HPL w hE).mono ?_
    rintro e1 W1 ⟨rfl, B1⟩
    have hE1 := hE.below B1 hE.sz
    have hD1 := hD.below B1 (Nat.le_trans (by decide) hE.sz)
    go_wp2_with fail
    refine (place_any s line column _ hE1).mono ?_
    rintro e2 W2 ⟨rfl, hb2⟩
    have B2 := B1.trans (hb2.mono B1.size)
    rw [hp]
    go_wp2_with fail
    refine (refPlace_err s line column (by rw [hp]; exact hg) _).mono ?_
    rintro e3 W3 ⟨rfl, rfl⟩
    rw [hp]
    go_wp2_with fail
    refine (divided_any _ (hE.below B2 hE.sz) (hD.below B2 (Nat.le_trans (by decide) hE.sz))).mono ?_
    rintro e4 W4 ⟨rfl, hb4⟩
    have B4 := B2.trans (hb4.mono B2.size)
    go_wp2_with fail
    go_ret
    exact ⟨ret_bool (by simp), B4⟩
set_option maxRecDepth 100000 in
set_option maxHeartbeats 2000000 in
theorem spots_ft (s : ByteArray) (at_ line column : Int) (w : World) (hE : Env w) (hD : Db w) (hf : s.size ≤ 1200 ∨ (20000 < s.size ∧ s.size ≤ 20020)) (he : ¬ (spotR s at_).2.2 = 0) (hg : (placeR s line column).2 = 0) :
    Calls Tryz.prog 6 #[.string s, .int .i64 at_, .int .i64 line, .int .i64 column] w fun e w' => e = .returned (.bool true) ∧ Below w.heap.size w w' := by
    have h0 := fair_any s w
    rw [decide_eq_true hf] at h0
    have HF := hide h0
    have h1 := spot_any s at_ w
    have h2 := refSpot_any s at_ w
    have hee : ((spotR s at_).2.2 == 0) = false := by simpa using he
    clear he
    have HS1 := hide h1
    have HS2 := hide h2
    clear h0 h1 h2 hf
    revert HS1 HS2 hee
    generalize (spotR s at_).1 = a
    generalize (spotR s at_).2.1 = b
    generalize (spotR s at_).2.2 = e
    intro hee HS1 HS2
    obtain ⟨x, hp⟩ : ∃ x, placeR s line column = (x, 0) := ⟨(placeR s line column).1, by rw [← hg]⟩
    obtain ⟨hsp, _, _⟩ := spot_place hp
    go_enter Tryz.func6, Tryz.ntmps6
    go_wp2_with fail
    refine (unhide HF).mono ?_
    rintro e0 w0 ⟨rfl, rfl⟩
    go_wp2_with fail
    refine (unhide HS1).mono ?_
    rintro e0 w0 ⟨rfl, rfl⟩
    go_wp2_with fail
    refine (unhide HS2).mono ?_
    rintro e0 w0 ⟨rfl, rfl⟩
    have B1 := Below.refl w.heap.size w
    have hE1 := hE
    have hD1 := hD
    go_wp2_with fail
    refine (place_any s line column _ hE1).mono ?_
    rintro e2 W2 ⟨rfl, hb2⟩
    have B2 := B1.trans (hb2.mono B1.size)
    rw [hp]
    go_wp2_with fail
    refine (spot_any s x _).mono ?_
    rintro e3 W3 ⟨rfl, rfl⟩
    rw [hsp]
    go_wp2_with fail
    refine (divided_any _ (hE.below B2 hE.sz) (hD.below B2 (Nat.le_trans (by decide) hE.sz))).mono ?_
    rintro e4 W4 ⟨rfl, hb4⟩
    have B4 := B2.trans (hb4.mono B2.size)
    go_wp2_with fail
    go_ret
    exact ⟨ret_bool (by simp), B4⟩
set_option maxRecDepth 100000 in
set_option maxHeartbeats 2000000 in
theorem spots_ff (s : ByteArray) (at_ line column : Int) (w : World) (hE : Env w) (hD : Db w) (hf : s.size ≤ 1200 ∨ (20000 < s.size ∧ s.size ≤ 20020)) (he : ¬ (spotR s at_).2.2 = 0) (hg : ¬ (placeR s line column).2 = 0) :
    Calls Tryz.prog 6 #[.string s, .int .i64 at_, .int .i64 line, .int .i64 column] w fun e w' => e = .returned (.bool true) ∧ Below w.heap.size w w' := by
    have h0 := fair_any s w
    rw [decide_eq_true hf] at h0
    have HF := hide h0
    have h1 := spot_any s at_ w
    have h2 := refSpot_any s at_ w
    have hee : ((spotR s at_).2.2 == 0) = false := by simpa using he
    clear he
    have HS1 := hide h1
    have HS2 := hide h2
    clear h0 h1 h2 hf
    revert HS1 HS2 hee
    generalize (spotR s at_).1 = a
    generalize (spotR s at_).2.1 = b
    generalize (spotR s at_).2.2 = e
    intro hee HS1 HS2
    have hp0 : ∃ g, placeR s line column = (0, g) ∧ ¬ g = 0 := by
      unfold placeR at hg ⊢
      split
      · exact ⟨_, rfl, by decide⟩
      next h1 =>
        rw [if_neg h1] at hg
        split
        · exact ⟨_, rfl, by decide⟩
        next h2 =>
          rw [if_neg h2] at hg
          split
          · exact ⟨_, rfl, by decide⟩
          next h3 => rw [if_neg h3] at hg; exact absurd rfl hg
    obtain ⟨g, hp, hg⟩ := hp0
    have hgg : (g != 0) = true := by simpa using hg
    go_enter Tryz.func6, Tryz.ntmps6
    go_wp2_with fail
    refine (unhide HF).mono ?_
    rintro e0 w0 ⟨rfl, rfl⟩
    go_wp2_with fail
    refine (unhide HS1).mono ?_
    rintro e0 w0 ⟨rfl, rfl⟩
    go_wp2_with fail
    refine (unhide HS2).mono ?_
    rintro e0 w0 ⟨rfl, rfl⟩
    have B1 := Below.refl w.heap.size w
    have hE1 := hE
    have hD1 := hD
    go_wp2_with fail
    refine (place_any s line column _ hE1).mono ?_
    rintro e2 W2 ⟨rfl, hb2⟩
    have B2 := B1.trans (hb2.mono B1.size)
    rw [hp]
    go_wp2_with fail
    refine (refPlace_err s line column (by rw [hp]; exact hg) _).mono ?_
    rintro e3 W3 ⟨rfl, rfl⟩
    rw [hp]
    go_wp2_with fail
    refine (divided_any _ (hE.below B2 hE.sz) (hD.below B2 (Nat.le_trans (by decide) hE.sz))).mono ?_
    rintro e4 W4 ⟨rfl, hb4⟩
    have B4 := B2.trans (hb4.mono B2.size)
    go_wp2_with fail
    go_ret
    exact ⟨ret_bool (by simp), B4⟩
theorem spots_law (s : ByteArray) (at_ line column : Int) (w : World) (hE : Env w) (hD : Db w) :
    Calls Tryz.prog 6 #[.string s, .int .i64 at_, .int .i64 line, .int .i64 column] w fun e w' => e = .returned (.bool true) ∧ Below w.heap.size w w' := by
  by_cases hf : s.size ≤ 1200 ∨ (20000 < s.size ∧ s.size ≤ 20020)
  · by_cases he : (spotR s at_).2.2 = 0
    · by_cases hg : (placeR s line column).2 = 0
      · exact spots_tt s at_ line column w hE hD hf he hg
      · exact spots_tf s at_ line column w hE hD hf he hg
    · by_cases hg : (placeR s line column).2 = 0
      · exact spots_ft s at_ line column w hE hD hf he hg
      · exact spots_ff s at_ line column w hE hD hf he hg
  · have h0 := fair_any s w
    rw [decide_eq_false hf] at h0
    have HF := hide h0
    clear h0 hf
    go_enter Tryz.func6, Tryz.ntmps6
    go_wp2_with fail
    refine (unhide HF).mono ?_
    rintro e0 w0 ⟨rfl, rfl⟩
    go_wp2_with fail
    refine (divided_any _ hE hD).mono ?_
    rintro e w1 ⟨rfl, hb⟩
    go_wp2_with fail
    go_ret
    exact ⟨rfl, hb⟩
end Go.Proofs.YteknngncnbfbnaaGreatDoor
