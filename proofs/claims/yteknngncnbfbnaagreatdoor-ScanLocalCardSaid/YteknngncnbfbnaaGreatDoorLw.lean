/- ScanWords: the whole call. -/
import Derived.Test.YteknngncnbfbnaaGreatDoorDd
import Derived.RangeFuncNested
import Derived.RangeFuncBound
import Derived.RangeFuncCalls
import Derived.RangeFuncLeaves
import Derived.RangeFuncBox
import Derived.Shelf.Abstract
import Derived.WalkKit
import Derived.OwnWalkIn
import Derived.TacticsInMore
import Derived.LoopNIn
import Derived.LoopIn
import Derived.RecoverIn
import Derived.Maps.AppendAt
import Derived.Outline
import Derived.Handy
import Derived.Deep.LoopGhost
import Derived.RegionTactic
import Derived.ChangeAlike
import Derived.Deep.QuietTactic
import Derived.BigQuiet
import Derived.StillTailTactics
import Derived.Deep.RegionWith
import Derived.LoopTactic
import Derived.OwnWalk
import Derived.Deep.AppendLies
import Derived.Deep.DeepCutAuto
import Derived.KernelRfl
import Derived.KernelRfl
namespace Go.Proofs.YteknngncnbfbnaaGreatDoor
open Go Go.RowKit Go.Shelf
set_option maxRecDepth 100000 in
set_option maxHeartbeats 4000000 in
theorem words_law (s : ByteArray) (w : World) (hE : Env w) (hD : Db w) : Calls Tryz.prog 3 #[.string s] w fun e w' => e = .returned (.bool true) ∧ Below w.heap.size w w' := by
  by_cases h80 : (80 : Int) < s.size
  · go_enter Tryz.func3, Tryz.ntmps3
    go_wp2_with (go_at_call 13; refine (divided_any w hE hD).mono ?_; rintro e w1 ⟨rfl, hb⟩)
    go_ret
    exact ⟨rfl, hb⟩
  · have hsz : s.size ≤ 80 := by omega
    have hsm : s.size ≤ maxLen := by unfold maxLen; omega
    have hsi : s.size ≤ 9223372036854775807 := by omega
    go_enter Tryz.func3, Tryz.ntmps3
    go_wp2_with fail
    refine (words_any w hE).mono ?_
    rintro e W1 ⟨rfl, hW1⟩
    have hb1 : Blk W1 w.heap.size (wordsL.map mkV) 9 := by rw [hW1]; exact Blk.new w (wordsL.map mkV) 9
    have B1 : Below w.heap.size w W1 := by rw [hW1]; exact (Below.refl _ _).alloc (Nat.le_refl _) _
    clear hW1
    go_wp2_with fail
    refine (refWords_any W1).mono ?_
    rintro e W2 ⟨rfl, hW2⟩
    have hb2 : Blk W2 W1.heap.size (wordsL.map mkV) 9 := by rw [hW2]; exact Blk.new W1 (wordsL.map mkV) 9
    have hb1' : Blk W2 w.heap.size (wordsL.map mkV) 9 := by rw [hW2]; exact hb1.alloc _
    have B2 : Below w.heap.size w W2 := by rw [hW2]; exact B1.alloc B1.size _
    clear hW2 hb1
    go_wp2_with fail
    have hsame := same_any wordsL w.heap.size W1.heap.size 63 63 (by rw [wordsL_len]; decide) W2 hb1' hb2
    rw [wordsL_len] at hsame
    refine hsame.mono ?_
    rintro e W3 ⟨rfl, n3, rfl⟩
    have B3 := below_drewN' B2 n3
    generalize W2.drewN n3 = V3 at B3 ⊢
    clear hsame hb1' hb2 B2 B1
    go_wp2_with fail
    refine (signs_any V3 (hE.below B3 hE.sz)).mono ?_
    rintro e W4 ⟨rfl, hW4⟩
    have hb4 : Blk W4 V3.heap.size (signsL.map mkV) 9 := by rw [hW4]; exact Blk.new V3 (signsL.map mkV) 9
    have B4 : Below w.heap.size w W4 := by rw [hW4]; exact B3.alloc B3.size _
    clear hW4
    go_wp2_with fail
    refine (refSigns_any W4).mono ?_
    rintro e W5 ⟨rfl, hW5⟩
    have hb5 : Blk W5 W4.heap.size (signsL.map mkV) 9 := by rw [hW5]; exact Blk.new W4 (signsL.map mkV) 9
    have hb4' : Blk W5 V3.heap.size (signsL.map mkV) 9 := by rw [hW5]; exact hb4.alloc _
    have B5 : Below w.heap.size w W5 := by rw [hW5]; exact B4.alloc B4.size _
    clear hW5 hb4
    go_wp2_with fail
    have hsame := same_any signsL V3.heap.size W4.heap.size 23 23 (by rw [signsL_len]; decide) W5 hb4' hb5
    rw [signsL_len] at hsame
    refine hsame.mono ?_
    rintro e W6 ⟨rfl, n6, rfl⟩
    have B6 := below_drewN' B5 n6
    generalize W5.drewN n6 = V6 at B6 ⊢
    clear hsame hb4' hb5 B5 B4 B3
    go_wp2_with fail
    refine (divided_any V6 (hE.below B6 hE.sz) (hD.below B6 (Nat.le_trans (by decide) hE.sz))).mono ?_
    rintro e W7 ⟨rfl, hb7⟩
    have B7 := B6.trans (hb7.mono B6.size)
    clear hb7
    go_wp2_with fail
    refine (isName_any s hsm W7 (hE.below B7 hE.sz)).mono ?_
    rintro e W8 ⟨rfl, hb8⟩
    have B8 := B7.trans (hb8.mono B7.size)
    clear hb8
    go_wp2_with fail
    refine (refName_any s hsi W8).mono ?_
    rintro e W9 ⟨rfl, hb9⟩
    have B9 := B8.trans (hb9.mono B8.size)
    clear hb9
    generalize nameB (bs s) = nB
    go_wp2_with fail
    refine (isWord_any s hsm W9 (hE.below B9 hE.sz)).mono ?_
    rintro e W10 ⟨rfl, hb10⟩
    have B10 := B9.trans (hb10.mono B9.size)
    clear hb10
    go_wp2_with fail
    refine (refWord_any s W10).mono ?_
    rintro e W11 ⟨rfl, hb11⟩
    have B11 := B10.trans (hb11.mono B10.size)
    clear hb11
    generalize memB wordsL (bs s) = wB
    go_wp2_with fail
    refine (isBrand_any s hsm W11).mono ?_
    rintro e W12 ⟨rfl, rfl⟩
    go_wp2_with fail
    refine (refBrand_any s hsi _).mono ?_
    rintro e W13 ⟨rfl, rfl⟩
    generalize brandB (bs s) = bB
    go_wp2_with fail
    go_ret
    exact ⟨rfl, B11⟩
end Go.Proofs.YteknngncnbfbnaaGreatDoor
