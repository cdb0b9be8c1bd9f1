/- ScanPieces' function returns true, whatever it is called with (where the variables it reads hold what the program's text lays). -/
import Derived.Test.YteknngncnbfbnaaGreatDoorRb
import Derived.Test.YteknngncnbfbnaaGreatDoorLw
import Derived.RangeFuncNested
import Derived.RangeFuncBound
import Derived.RangeFuncCalls
import Derived.RangeFuncLeaves
import Derived.RangeFuncBox
import Derived.Shelf.Abstract
import Derived.WalkKit
import Derived.OwnWalkIn
import Derived.TacticsInMore
import Derived.LoopNIn
import Derived.LoopIn
import Derived.RecoverIn
import Derived.Maps.AppendAt
import Derived.Outline
import Derived.Handy
import Derived.Deep.LoopGhost
import Derived.RegionTactic
import Derived.ChangeAlike
import Derived.Deep.QuietTactic
import Derived.BigQuiet
import Derived.StillTailTactics
import Derived.Deep.RegionWith
import Derived.LoopTactic
import Derived.OwnWalk
import Derived.Deep.AppendLies
import Derived.Deep.DeepCutAuto
import Derived.KernelRfl
namespace Go.Proofs.YteknngncnbfbnaaGreatDoor
open Go Go.RowKit Go.Shelf
set_option maxRecDepth 100000 in
set_option maxHeartbeats 4000000 in
theorem pieces_law (s : ByteArray) (w : World) (hE : Env w) (hD : Db w) : Calls Tryz.prog 5 #[.string s] w fun e w' => e = .returned (.bool true) ∧ Below w.heap.size w w' := by
  by_cases hf : s.size ≤ 1200 ∨ (20000 < s.size ∧ s.size ≤ 20020)
  · have h0 := fair_any s w
    rw [decide_eq_true hf] at h0
    have H0 := hide h0
    have h1 := fun W hE => pieces_eq s W hE
    have h2 := fun W => refPieces_eq s W
    have h3 := fun W hE => scan_eq s W hE
    have h4 := fun W => refScan_eq s W
    have h5 := fun W hE => bare_eq s W hE
    have h6 := fun W => refBare_eq s W
    have hxl := (pcsL_le (bs s)).1
    revert h1 h2 h3 h4 h5 h6 hxl
    generalize pcsL (bs s) = p
    obtain ⟨xs, x, l⟩ := p
    intro h1 h2 h3 h4 h5 h6 hxl
    simp only at h1 h2 h3 h4 h5 h6 hxl
    have htl := Nat.le_trans (toksL_len xs 1) hxl
    have H1 := hide h1
    have H2 := hide h2
    have H3 := hide h3
    have H4 := hide h4
    have H5 := hide h5
    have H6 := hide h6
    clear h0 h1 h2 h3 h4 h5 h6 hf
    go_enter Tryz.func5, Tryz.ntmps5
    go_wp2_with fail
    refine (unhide H0).mono ?_
    rintro e0 w0 ⟨rfl, rfl⟩
    go_wp2_with fail
    refine (unhide H1 _ hE).mono ?_
    rintro e1 w1 ⟨v1, rfl, hH1, hb1⟩
    obtain ⟨A1, c1, rfl, hA⟩ := hH1.bits
    clear hH1
    go_wp2_with fail
    have K1 := (Cells.nil w1).fault x l
    have B1 := hb1.alloc hb1.size (.cells #[.int .i64 x, .int .i64 l] 34)
    have P1 := hA.below ((Below.refl w1.heap.size w1).alloc (Nat.le_refl _) (.cells #[.int .i64 x, .int .i64 l] 34))
    clear hA hb1
    generalize w1.alloc (.cells #[.int .i64 x, .int .i64 l] 34) = V1 at K1 B1 P1 ⊢
    generalize w1.heap.size = n1 at K1 ⊢
    refine (unhide H2 V1).mono ?_
    rintro e2 w2 ⟨v2, rfl, hH2, hb2⟩
    obtain ⟨A2, c2, rfl, hA⟩ := hH2.bits
    clear hH2
    go_wp2_with fail
    have K2 := (K1.below hb2).fault x l
    have B2 := (B1.trans (hb2.mono B1.size)).alloc (Nat.le_trans B1.size hb2.size) (.cells #[.int .i64 x, .int .i64 l] 34)
    have al := (Below.refl w2.heap.size w2).alloc (Nat.le_refl _) (.cells #[.int .i64 x, .int .i64 l] 34)
    have P2 := (P1.below hb2).below al
    have Q2 := hA.below al
    clear hA hb2 K1 B1 P1 al
    generalize w2.alloc (.cells #[.int .i64 x, .int .i64 l] 34) = V2 at K2 B2 P2 Q2 ⊢
    generalize w2.heap.size = n2 at K2 ⊢
    refine (unhide H3 V2 (hE.below B2 hE.sz)).mono ?_
    rintro e3 w3 ⟨v3, rfl, ht3, hn3, hb3⟩
    obtain ⟨A3, c3, rfl, hA⟩ := toks_of ht3 hn3
    clear ht3 hn3
    go_wp2_with fail
    have K3 := (K2.below hb3).fault x l
    have B3 := (B2.trans (hb3.mono B2.size)).alloc (Nat.le_trans B2.size hb3.size) (.cells #[.int .i64 x, .int .i64 l] 34)
    have al := (Below.refl w3.heap.size w3).alloc (Nat.le_refl _) (.cells #[.int .i64 x, .int .i64 l] 34)
    have P3 := (P2.below hb3).below al
    have Q3 := (Q2.below hb3).below al
    have R3 := hA.below al
    clear hA hb3 K2 B2 P2 Q2 al
    generalize w3.alloc (.cells #[.int .i64 x, .int .i64 l] 34) = V3 at K3 B3 P3 Q3 R3 ⊢
    generalize w3.heap.size = n3 at K3 ⊢
    refine (unhide H4 V3).mono ?_
    rintro e4 w4 ⟨v4, rfl, ht4, hn4, hb4⟩
    obtain ⟨A4, c4, rfl, hA⟩ := toks_of ht4 hn4
    clear ht4 hn4
    go_wp2_with fail
    have K4 := (K3.below hb4).fault x l
    have B4 := (B3.trans (hb4.mono B3.size)).alloc (Nat.le_trans B3.size hb4.size) (.cells #[.int .i64 x, .int .i64 l] 34)
    have al := (Below.refl w4.heap.size w4).alloc (Nat.le_refl _) (.cells #[.int .i64 x, .int .i64 l] 34)
    have P4 := (P3.below hb4).below al
    have Q4 := (Q3.below hb4).below al
    have R4 := (R3.below hb4).below al
    have S4 := hA.below al
    clear hA hb4 K3 B3 P3 Q3 R3 al
    generalize w4.alloc (.cells #[.int .i64 x, .int .i64 l] 34) = V4 at K4 B4 P4 Q4 R4 S4 ⊢
    generalize w4.heap.size = n4 at K4 ⊢
    refine (unhide H5 V4 (hE.below B4 hE.sz)).mono ?_
    rintro e5 w5 ⟨rfl, hb5⟩
    go_wp2_with fail
    have K5 := (K4.below hb5).fault x l
    have B5 := (B4.trans (hb5.mono B4.size)).alloc (Nat.le_trans B4.size hb5.size) (.cells #[.int .i64 x, .int .i64 l] 34)
    have hb5' := hb5.alloc hb5.size (.cells #[.int .i64 x, .int .i64 l] 34)
    have P5 := P4.below hb5'
    have Q5 := Q4.below hb5'
    have R5 := R4.below hb5'
    have S5 := S4.below hb5'
    clear hb5 hb5' K4 B4 P4 Q4 R4 S4
    generalize w5.alloc (.cells #[.int .i64 x, .int .i64 l] 34) = V5 at K5 B5 P5 Q5 R5 S5 ⊢
    generalize w5.heap.size = n5 at K5 ⊢
    refine (unhide H6 V5).mono ?_
    rintro e6 w6 ⟨rfl, hb6⟩
    go_wp2_with fail
    have K6 := (K5.below hb6).fault x l
    have B6 := (B5.trans (hb6.mono B5.size)).alloc (Nat.le_trans B5.size hb6.size) (.cells #[.int .i64 x, .int .i64 l] 34)
    have hb6' := hb6.alloc hb6.size (.cells #[.int .i64 x, .int .i64 l] 34)
    have P6 := P5.below hb6'
    have Q6 := Q5.below hb6'
    have R6 := R5.below hb6'
    have S6 := S5.below hb6'
    clear hb6 hb6' K5 B5 P5 Q5 R5 S5
    generalize w6.alloc (.cells #[.int .i64 x, .int .i64 l] 34) = V6 at K6 B6 P6 Q6 R6 S6 ⊢
    generalize w6.heap.size = n6 at K6 ⊢
    refine (divided_any V6 (hE.below B6 hE.sz) (hD.below B6 (Nat.le_trans (by decide) hE.sz))).mono ?_
    rintro e7 w7 ⟨rfl, hb7⟩
    have K7 := K6.below hb7
    have B7 := B6.trans (hb7.mono B6.size)
    have P7 := P6.below hb7
    have Q7 := Q6.below hb7
    have R7 := R6.below hb7
    have S7 := S6.below hb7
    clear hb7 K6 B6 P6 Q6 R6 S6 H0 H1 H2 H3 H4 H5 H6
    go_wp2_with fail
    refine (sameBits_any xs A1 A2 c1 c2 (by omega) w7 P7 Q7).mono ?_
    rintro e8 w8 ⟨rfl, m8, rfl⟩
    have gk : ∀ a v, (a, v) ∈ _ → w7.cell? a = some v := fun a v h => K7.get (a := a) (v := v) h
    have a0 := gk ⟨n1, 0, none⟩ (.int .i64 x) (by simp)
    have a1 := gk ⟨n1, 1, none⟩ (.int .i64 l) (by simp)
    have b0 := gk ⟨n2, 0, none⟩ (.int .i64 x) (by simp)
    have b1 := gk ⟨n2, 1, none⟩ (.int .i64 l) (by simp)
    have d0 := gk ⟨n3, 0, none⟩ (.int .i64 x) (by simp)
    have d1 := gk ⟨n3, 1, none⟩ (.int .i64 l) (by simp)
    have f0 := gk ⟨n4, 0, none⟩ (.int .i64 x) (by simp)
    have f1 := gk ⟨n4, 1, none⟩ (.int .i64 l) (by simp)
    have g0 := gk ⟨n5, 0, none⟩ (.int .i64 x) (by simp)
    have g1 := gk ⟨n5, 1, none⟩ (.int .i64 l) (by simp)
    have i0 := gk ⟨n6, 0, none⟩ (.int .i64 x) (by simp)
    have i1 := gk ⟨n6, 1, none⟩ (.int .i64 l) (by simp)
    clear gk K7 P7 Q7
    generalize bareL xs = bl
    go_wp2_with fail
    refine (same_toks (toksL 1 xs) A3 A4 c3 c4 (by omega) _ (R7.below (below_drewN' (Below.refl _ _) m8)) (S7.below (below_drewN' (Below.refl _ _) m8))).mono ?_
    rintro e9 w9 ⟨rfl, m9, rfl⟩
    clear R7 S7
    go_wp2_with fail
    go_ret
    exact ⟨rfl, below_drewN' B7 (m8 + m9)⟩
  · have h0 := fair_any s w
    rw [decide_eq_false hf] at h0
    have HF := hide h0
    clear h0 hf
    go_enter Tryz.func5, Tryz.ntmps5
    go_wp2_with fail
    refine (unhide HF).mono ?_
    rintro e0 w0 ⟨rfl, rfl⟩
    go_wp2_with fail
    refine (divided_any _ hE hD).mono ?_
    rintro e w1 ⟨rfl, hb⟩
    go_wp2_with fail
    go_ret
    exact ⟨rfl, hb⟩
end Go.Proofs.YteknngncnbfbnaaGreatDoor
