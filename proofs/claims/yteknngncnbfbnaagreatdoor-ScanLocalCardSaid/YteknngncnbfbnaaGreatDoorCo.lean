/- Comments: how far one goes, and when it has no end, for sources of at most 20000 bytes. -/
import Derived.Test.YteknngncnbfbnaaGreatDoorBl
import Derived.Tactics
import Derived.Tactics2
import Derived.WalkKit
import Derived.LoopTactic
import Derived.Outline
import Derived.Lib.Hide
import Derived.Handy
import Derived.KernelRfl
import Derived.Deep.LoopGhost
import Derived.CallsIn
import Derived.Deep.QuietTactic
import Derived.BigQuiet
import Derived.Deep.Draws
import Derived.WalkSpells
import Derived.Lib.Walk
import Derived.Lib.Strings
import Derived.Maps.OwnOps
import Derived.Maps.OwnSet
import Derived.Deep.RegionWith
import Derived.StillTailTactics
import Derived.WalkMore
namespace Go.Proofs.YteknngncnbfbnaaGreatDoor
open Go Go.RowKit

theorem hide {p : Prop} (h : p) : Hid p := h
theorem unhide {p : Prop} (h : Hid p) : p := h
def ComPost (w : World) (b : Nat) (s : ByteArray) (k fr bm bg : Nat) (e : Ending) (w' : World) : Prop :=
  (∃ n, closeL 1 ((bs s).drop (k + 2)) = some n ∧ e = .returned (.int .u8 7) ∧ Scn w' b s (k + 2 + n) fr bm bg ∧ Sk b w w') ∨
  (closeL 1 ((bs s).drop (k + 2)) = none ∧ isFault 13 (1 + nl ((bs s).take fr)) e ∧ Sk b w w')
theorem comment_no (b : Nat) (s : ByteArray) (k fr bm bg : Nat) (hk : k ≤ s.size) (w : World) (h : Scn w b s k fr bm bg) (hp : preB ((bs s).drop k) [40, 42] = false) :
    Calls Tryz.prog 129 #[.pointer (some ⟨b, 0, none⟩)] w fun e w' => e = .returned (.int .u8 0) ∧ Scn w' b s k fr bm bg ∧ Sk b w w' := by
  go_enter Tryz.func129, Tryz.ntmps129
  go_wp2
  go_step3
  go_wp2_with (go_at_call 145; refine (take_no b s ⟨#[40, 42]⟩ k fr _ _ hk _ h.sc hp).mono ?_; rintro e w1 ⟨rfl, hS, hK⟩)
  rw [Exit.noGoto_ret]
  go_ret
  exact ⟨rfl, h.go hK hS, hK⟩
theorem comment_any (b : Nat) (s : ByteArray) (k fr bm bg : Nat) (hf : fr ≤ s.size) (hs : s.size ≤ 20000) (w : World) (h : Scn w b s k fr bm bg) (hp : preB ((bs s).drop k) [40, 42] = true) :
    Calls Tryz.prog 129 #[.pointer (some ⟨b, 0, none⟩)] w (ComPost w b s k fr bm bg) := by
  have hpan := run_panic34
  have hr : k + 2 ≤ s.size := pre_room hp (by decide)
  go_enter Tryz.func129, Tryz.ntmps129
  go_wp2
  go_step3
  go_wp2_with (go_at_call 145; refine (take_yes b s ⟨#[40, 42]⟩ k fr _ _ (by omega) (by omega) _ h.sc hp).mono ?_; rintro e w1 ⟨rfl, hS, hK⟩)
  go_step3
  go_wp2_with fail
  go_loopg [3] (s.size - (k + 2)) (fun n d wr => ∃ D j : Nat, 1 ≤ D ∧ d = .int .i64 D ∧ n = s.size - j ∧ k + 2 ≤ j ∧ j ≤ s.size ∧ D ≤ j ∧ Scn wr b s j fr bm bg ∧ Sk b w wr ∧ Hid ((closeL D ((bs s).drop j)).map (· + (j - (k + 2))) = closeL 1 ((bs s).drop (k + 2))))
  case atStart => exact ⟨1, k + 2, by omega, rfl, rfl, by omega, hr, by omega, h.go hK hS, hK, Lib.hid (by simp)⟩
  case round =>
    clear hS hK h hp hr
    obtain ⟨D, j, hD, rfl, rfl, hj1, hj2, hDj, hS, hK, HE⟩ := hrel
    rcases hA : preB ((bs s).drop j) [40, 42] with _ | _
    · rcases hB : preB ((bs s).drop j) [42, 41] with _ | _
      · by_cases hlt : j < s.size
        · have HC := Lib.hid (closeL_else (d := D) (by rw [← bs_at s j hlt]; exact hA) (by rw [← bs_at s j hlt]; exact hB))
          have HA := Lib.hid hA
          have HB := Lib.hid hB
          clear hA hB
          have hd := done_any b s j
          have hf : endB j s.size = false := by unfold endB; simp; omega
          rw [hf] at hd
          clear hf
          have HD := hide hd
          clear hd
          go_wp2_with (first | (go_at_call 145; refine (take_no b s ⟨#[40, 42]⟩ j fr _ _ hj2 _ hS.sc HA.out).mono ?_; clear HA; rintro e w2 ⟨rfl, hS2, hK2⟩) | (go_at_call 145; refine (take_no b s ⟨#[42, 41]⟩ j fr _ _ hj2 _ hS2 HB.out).mono ?_; clear HB; rintro e w3 ⟨rfl, hS3, hK3⟩) | (go_at_call 85; refine (unhide HD _ (cell0 hS3) (cell1 hS3)).mono ?_; clear HD; rintro e w4 ⟨rfl, n, rfl⟩; have h1 := cell1 hS3; have hfz := Blk.frozen hS3 1))
          go_roundg (s.size - (j + 1))
          case measure => omega
          case rel =>
            have hK4 : Sk b wr ((w3.drewN n).setCell ⟨b, 1, none⟩ (.int .i64 (j + 1))) := ((hK2.trans hK3).trans (Sk.drewN _ _ n)).trans (Sk.setCell _ _ _ _)
            refine ⟨D, j + 1, hD, rfl, rfl, by omega, by omega, by omega, hS.go hK4 ?_, hK.trans hK4, Lib.hid ?_⟩
            · have := (hS3.drewN n).at_ (j + 1)
              simpa using this
            · rw [← HE.out, bs_at s j hlt, HC.out, Option.map_map]
              congr 1
              funext x
              simp only [Function.comp]
              omega
        · obtain rfl : j = s.size := by omega
          have HA := Lib.hid hA
          have HB := Lib.hid hB
          clear hA hB
          have hd := done_any b s s.size
          have hf : endB s.size s.size = true := by unfold endB; simp
          rw [hf] at hd
          clear hf
          have HD := hide hd
          clear hd
          go_wp2_with (first | (go_at_call 145; refine (take_no b s ⟨#[40, 42]⟩ s.size fr _ _ hj2 _ hS.sc HA.out).mono ?_; clear HA; rintro e w2 ⟨rfl, hS2, hK2⟩) | (go_at_call 145; refine (take_no b s ⟨#[42, 41]⟩ s.size fr _ _ hj2 _ hS2 HB.out).mono ?_; clear HB; rintro e w3 ⟨rfl, hS3, hK3⟩) | (go_at_call 85; refine (unhide HD _ (cell0 hS3) (cell1 hS3)).mono ?_; clear HD; rintro e w4 ⟨rfl, n, rfl⟩) | (go_at_call 110; refine (fault_any b s s.size fr bm bg 13 hf hs _ ((hS.go (hK2.trans hK3) hS3).drewN n)).mono ?_; rintro e w5 ⟨rfl, hS5, hK5⟩))
          go_wp2
          refine ⟨rfl, .inr ⟨?_, rfl, hK.trans (((hK2.trans hK3).trans (Sk.drewN _ _ n)).trans hK5)⟩⟩
          rw [← HE.out, List.drop_eq_nil_of_le (by rw [bs_len]; exact Nat.le_refl _)]
          rfl
      · have HC := Lib.hid (closeL_close (d := D) hA hB)
        have hr2 : j + 2 ≤ s.size := pre_room hB (by decide)
        have HA := Lib.hid hA
        have HB := Lib.hid hB
        clear hA hB
        by_cases h1 : D = 1
        · subst h1
          go_wp2_with (first | (go_at_call 145; refine (take_no b s ⟨#[40, 42]⟩ j fr _ _ hj2 _ hS.sc HA.out).mono ?_; clear HA; rintro e w2 ⟨rfl, hS2, hK2⟩) | (go_at_call 145; refine (take_yes b s ⟨#[42, 41]⟩ j fr _ _ hj2 (by omega) _ hS2 HB.out).mono ?_; clear HB; rintro e w3 ⟨rfl, hS3, hK3⟩))
          try rw [Exit.noGoto_ret]
          go_ret
          refine .inl ⟨j - (k + 2) + 2, ?_, rfl, ?_, hK.trans (hK2.trans hK3)⟩
          · rw [← HE.out, HC.out]
            simp
            omega
          · have e : k + 2 + (j - (k + 2) + 2) = j + 2 := by omega
            rw [e]
            exact hS.go (hK2.trans hK3) hS3
        · have hne : ((D : Int) - 1 == 0) = false := by simp; omega
          go_wp2_with (first | (go_at_call 145; refine (take_no b s ⟨#[40, 42]⟩ j fr _ _ hj2 _ hS.sc HA.out).mono ?_; clear HA; rintro e w2 ⟨rfl, hS2, hK2⟩) | (go_at_call 145; refine (take_yes b s ⟨#[42, 41]⟩ j fr _ _ hj2 (by omega) _ hS2 HB.out).mono ?_; clear HB; rintro e w3 ⟨rfl, hS3, hK3⟩))
          go_roundg (s.size - (j + 2))
          case measure => omega
          case rel =>
            refine ⟨D - 1, j + 2, by omega, by go_num, rfl, by omega, by omega, by omega, hS.go (hK2.trans hK3) hS3, hK.trans (hK2.trans hK3), Lib.hid ?_⟩
            rw [← HE.out, HC.out, if_neg h1, Option.map_map, List.drop_drop]
            congr 1
            funext x
            simp only [Function.comp]
            omega
    · have HC := Lib.hid (closeL_open (d := D) hA)
      have hr2 : j + 2 ≤ s.size := pre_room hA (by decide)
      have HA := Lib.hid hA
      clear hA
      go_wp2_with (go_at_call 145; refine (take_yes b s ⟨#[40, 42]⟩ j fr _ _ hj2 (by omega) _ hS.sc HA.out).mono ?_; clear HA; rintro e w2 ⟨rfl, hS2, hK2⟩)
      go_roundg (s.size - (j + 2))
      case measure => omega
      case rel =>
        refine ⟨D + 1, j + 2, by omega, by go_num, rfl, by omega, by omega, by omega, hS.go hK2 hS2, hK.trans hK2, Lib.hid ?_⟩
        rw [← HE.out, HC.out, Option.map_map, List.drop_drop]
        congr 1
        funext x
        simp only [Function.comp]
        omega
end Go.Proofs.YteknngncnbfbnaaGreatDoor
