/- ScanOwn's function returns true, whatever it is called with (where the variables it reads hold what the program's text lays). -/
import Derived.Test.YteknngncnbfbnaaGreatDoorOw
import Derived.Test.YteknngncnbfbnaaGreatDoorRb
import Derived.Test.YteknngncnbfbnaaGreatDoorLw
import Derived.RangeFuncNested
import Derived.RangeFuncBound
import Derived.RangeFuncCalls
import Derived.RangeFuncLeaves
import Derived.RangeFuncBox
import Derived.Shelf.Abstract
import Derived.WalkKit
import Derived.OwnWalkIn
import Derived.TacticsInMore
import Derived.LoopNIn
import Derived.LoopIn
import Derived.RecoverIn
import Derived.Maps.AppendAt
import Derived.Outline
import Derived.Handy
import Derived.Deep.LoopGhost
import Derived.RegionTactic
import Derived.ChangeAlike
import Derived.Deep.QuietTactic
import Derived.BigQuiet
import Derived.StillTailTactics
import Derived.Deep.RegionWith
import Derived.LoopTactic
import Derived.OwnWalk
import Derived.Deep.AppendLies
import Derived.Deep.DeepCutAuto
import Derived.KernelRfl
namespace Go.Proofs.YteknngncnbfbnaaGreatDoor
open Go Go.RowKit Go.Shelf
set_option maxRecDepth 100000 in
set_option maxHeartbeats 8000000 in
theorem own_small (s : ByteArray) (hs : s.size ≤ 1200) (w : World) (hE : Env w) (hD : Db w) : Calls Tryz.prog 12 #[.string s] w fun e w' => e = .returned (.bool true) ∧ Below w.heap.size w w' := by
  have hs' : ¬ (1200 : Int) < s.size := by omega
  have h1 := fun W hE => pieces_eq s W hE
  have h2 := fun W => refPieces_eq s W
  have h3 := fun W hE => scan_eq s W hE
  have h4 := fun W => refScan_eq s W
  have hxl := (pcsL_le (bs s)).1
  revert h1 h2 h3 h4 hxl
  generalize pcsL (bs s) = p
  obtain ⟨xs, x, l⟩ := p
  intro h1 h2 h3 h4 hxl
  simp only at h1 h2 h3 h4 hxl
  have htl := Nat.le_trans (toksL_len xs 1) hxl
  unfold ScanPost at h3 h4
  revert h3 h4 htl
  generalize toksL 1 xs = ts
  intro h3 h4 htl
  have H1 := hide h1
  have H2 := hide h2
  have H3 := hide h3
  have H4 := hide h4
  clear h1 h2 h3 h4
  go_enter Tryz.func12, Tryz.ntmps12
  go_wp2_with fail
  refine (unhide H1 _ hE).mono ?_
  rintro e1 w1 ⟨v1, rfl, hH1, hb1⟩
  obtain ⟨A1, c1, rfl, _⟩ := hH1.bits
  have C1 := Clr.of_row hH1.1
  have B1 := hb1.alloc hb1.size (.cells #[.int .i64 x, .int .i64 l] 34)
  have C1' := C1.below ((Below.refl w1.heap.size w1).alloc (Nat.le_refl _) (.cells #[.int .i64 x, .int .i64 l] 34))
  clear hH1 hb1 C1
  go_wp2_with fail
  generalize w1.alloc (.cells #[.int .i64 x, .int .i64 l] 34) = V1 at B1 C1' ⊢
  refine (unhide H3 V1 (hE.below B1 hE.sz)).mono ?_
  rintro e2 w2 ⟨v2, rfl, hr2, hn2, hb2⟩
  obtain ⟨A2, c2, rfl, _⟩ := toks_of hr2 hn2
  have D2 := Clr.of_row (row_base hr2 B1.size)
  have al := (Below.refl w2.heap.size w2).alloc (Nat.le_refl _) (.cells #[.int .i64 x, .int .i64 l] 34)
  have B2 := (B1.trans (hb2.mono B1.size)).alloc (Nat.le_trans B1.size hb2.size) (.cells #[.int .i64 x, .int .i64 l] 34)
  have C2' := (C1'.below hb2).below al
  have D2' := D2.below al
  clear hr2 hn2 hb2 al D2 C1' B1
  go_wp2_with fail
  generalize w2.alloc (.cells #[.int .i64 x, .int .i64 l] 34) = V2 at B2 C2' D2' ⊢
  refine (words_any V2 (hE.below B2 hE.sz)).mono ?_
  rintro e3 W3 ⟨rfl, hW3⟩
  have hb3 : Blk W3 V2.heap.size (wordsL.map mkV) 9 := by rw [hW3]; exact Blk.new V2 (wordsL.map mkV) 9
  have al : Below V2.heap.size V2 W3 := by rw [hW3]; exact (Below.refl _ _).alloc (Nat.le_refl _) _
  have B3 := B2.trans (al.mono B2.size)
  have C3 := C2'.below al
  have D3 := D2'.below al
  have E3 := Clr.of_blk (n := 63) hb3 B2.size (by rw [List.length_map, wordsL_len]; exact Nat.le_refl _)
  clear hW3 hb3 al C2' D2'
  generalize V2.heap.size = N3 at E3 ⊢
  go_wp2_with fail
  refine (signs_any W3 (hE.below B3 hE.sz)).mono ?_
  rintro e4 W4 ⟨rfl, hW4⟩
  have hb4 : Blk W4 W3.heap.size (signsL.map mkV) 9 := by rw [hW4]; exact Blk.new W3 (signsL.map mkV) 9
  have al : Below W3.heap.size W3 W4 := by rw [hW4]; exact (Below.refl _ _).alloc (Nat.le_refl _) _
  have F4 := Clr.of_blk (n := 23) hb4 B3.size (by rw [List.length_map, signsL_len]; exact Nat.le_refl _)
  have O4 : Own4 w w.heap.size A1 A2 (some ⟨N3, 0, none⟩) (some ⟨W3.heap.size, 0, none⟩) xs.length ts.length W4 := ⟨C3.below al, D3.below al, E3.below al, F4, B3.trans (al.mono B3.size)⟩
  clear hW4 hb4 al C3 D3 E3 F4 B3 B2
  generalize W3.heap.size = N4 at O4 ⊢
  have HO := hide O4
  clear O4
  go_wp2_with fail
  go_loopw [39] (fun i wr => ∃ k : Nat, k ≤ xs.length ∧ i = .int .i64 k ∧ Own4 w w.heap.size A1 A2 (some ⟨N3, 0, none⟩) (some ⟨N4, 0, none⟩) xs.length ts.length wr) (fun i _ => xs.length - (intOf i).toNat)
  case atStart => exact ⟨0, Nat.zero_le _, rfl, unhide HO⟩
  case round =>
    clear HO
    obtain ⟨k, hk, rfl, hO⟩ := hrel
    by_cases hlt : k < xs.length
    · obtain ⟨g, rfl, hg, hc, hz⟩ := hO.1.at_ (by omega)
      obtain ⟨u0, d0⟩ := hc (k * 2) (by omega)
      have z0 := hz (k * 2)
      obtain ⟨u1, d1⟩ := hc (k * 2 + 1) (by omega)
      have z1 := hz (k * 2 + 1)
      have HO2 := hide ((hO.set _ (k * 2) (.int .u8 0) hg).set _ (k * 2 + 1) (.string ⟨#[]⟩) hg)
      clear hO hc hz
      go_wp2_with fail
      go_roundw
      case rel => exact ⟨k + 1, by omega, by go_num, unhide HO2⟩
      case measure => simp [intOf]; omega
    · obtain rfl : k = xs.length := by omega
      have HO := hide hO
      clear hO
      go_wp2_with fail
      go_loopw [49] (fun i wr => ∃ k : Nat, k ≤ ts.length ∧ i = .int .i64 k ∧ Own4 w w.heap.size A1 A2 (some ⟨N3, 0, none⟩) (some ⟨N4, 0, none⟩) xs.length ts.length wr) (fun i _ => ts.length - (intOf i).toNat)
      case atStart => exact ⟨0, Nat.zero_le _, rfl, unhide HO⟩
      case round =>
        clear HO
        obtain ⟨k, hk, rfl, hO⟩ := hrel
        by_cases hlt : k < ts.length
        · obtain ⟨g, rfl, hg, hc, hz⟩ := hO.2.1.at_ (by omega)
          obtain ⟨u0, d0⟩ := hc (k * 3) (by omega)
          have z0 := hz (k * 3)
          obtain ⟨u1, d1⟩ := hc (k * 3 + 1) (by omega)
          have z1 := hz (k * 3 + 1)
          obtain ⟨u2, d2⟩ := hc (k * 3 + 2) (by omega)
          have z2 := hz (k * 3 + 2)
          have HO2 := hide (((hO.set _ (k * 3) (.int .u8 0) hg).set _ (k * 3 + 1) (.string ⟨#[]⟩) hg).set _ (k * 3 + 2) (.int .i64 0) hg)
          clear hO hc hz
          go_wp2_with fail
          go_roundw
          case rel => exact ⟨k + 1, by omega, by go_num, unhide HO2⟩
          case measure => simp [intOf]; omega
        · obtain rfl : k = ts.length := by omega
          have HO := hide hO
          clear hO
          go_wp2_with fail
          go_loopw [59] (fun i wr => ∃ k : Nat, k ≤ 63 ∧ i = .int .i64 k ∧ Own4 w w.heap.size A1 A2 (some ⟨N3, 0, none⟩) (some ⟨N4, 0, none⟩) xs.length ts.length wr) (fun i _ => 63 - (intOf i).toNat)
          case atStart => exact ⟨0, Nat.zero_le _, rfl, unhide HO⟩
          case round =>
            clear HO
            obtain ⟨k, hk, rfl, hO⟩ := hrel
            by_cases hlt : k < 63
            · obtain ⟨g, hA, hg, hc, hz⟩ := hO.2.2.1.at_ (by omega)
              injection hA with hA
              injection hA with hA _ _
              subst hA
              obtain ⟨u0, d0⟩ := hc (k) (by omega)
              have z0 := hz (k)
              have HO2 := hide (hO.set _ (k) (.string ⟨#[]⟩) hg)
              clear hO hc hz
              go_wp2_with fail
              go_roundw
              case rel => exact ⟨k + 1, by omega, by go_num, unhide HO2⟩
              case measure => simp [intOf]; omega
            · obtain rfl : k = 63 := by omega
              have HO := hide hO
              clear hO
              go_wp2_with fail
              go_loopw [68] (fun i wr => ∃ k : Nat, k ≤ 23 ∧ i = .int .i64 k ∧ Own4 w w.heap.size A1 A2 (some ⟨N3, 0, none⟩) (some ⟨N4, 0, none⟩) xs.length ts.length wr) (fun i _ => 23 - (intOf i).toNat)
              case atStart => exact ⟨0, Nat.zero_le _, rfl, unhide HO⟩
              case round =>
                clear HO
                obtain ⟨k, hk, rfl, hO⟩ := hrel
                by_cases hlt : k < 23
                · obtain ⟨g, hA, hg, hc, hz⟩ := hO.2.2.2.1.at_ (by omega)
                  injection hA with hA
                  injection hA with hA _ _
                  subst hA
                  obtain ⟨u0, d0⟩ := hc (k) (by omega)
                  have z0 := hz (k)
                  have HO2 := hide (hO.set _ (k) (.string ⟨#[]⟩) hg)
                  clear hO hc hz
                  go_wp2_with fail
                  go_roundw
                  case rel => exact ⟨k + 1, by omega, by go_num, unhide HO2⟩
                  case measure => simp [intOf]; omega
                · obtain rfl : k = 23 := by omega
                  have HO := hide hO
                  clear hO
                  have BO := (unhide HO).2.2.2.2
                  clear HO
                  go_wp2_with fail
                  refine (unhide H1 wr (hE.below BO hE.sz)).mono ?_
                  rintro e5 w5 ⟨v5, rfl, hH5, hb5⟩
                  obtain ⟨A5, c5, rfl, hA⟩ := hH5.bits
                  have al := (Below.refl w5.heap.size w5).alloc (Nat.le_refl _) (.cells #[.int .i64 x, .int .i64 l] 34)
                  have B5 := (BO.trans (hb5.mono BO.size)).alloc (Nat.le_trans BO.size hb5.size) (.cells #[.int .i64 x, .int .i64 l] 34)
                  have P5 := hA.below al
                  clear hH5 hb5 hA al BO
                  go_wp2_with fail
                  generalize w5.alloc (.cells #[.int .i64 x, .int .i64 l] 34) = V5 at B5 P5 ⊢
                  refine (unhide H2 V5).mono ?_
                  rintro e6 w6 ⟨v6, rfl, hH6, hb6⟩
                  obtain ⟨A6, c6, rfl, hA⟩ := hH6.bits
                  have al := (Below.refl w6.heap.size w6).alloc (Nat.le_refl _) (.cells #[.int .i64 x, .int .i64 l] 34)
                  have B6 := (B5.trans (hb6.mono B5.size)).alloc (Nat.le_trans B5.size hb6.size) (.cells #[.int .i64 x, .int .i64 l] 34)
                  have P6 := (P5.below hb6).below al
                  have Q6 := hA.below al
                  clear hH6 hb6 hA al B5 P5
                  go_wp2_with fail
                  generalize w6.alloc (.cells #[.int .i64 x, .int .i64 l] 34) = V6 at B6 P6 Q6 ⊢
                  refine (unhide H3 V6 (hE.below B6 hE.sz)).mono ?_
                  rintro e7 w7 ⟨v7, rfl, hr7, hn7, hb7⟩
                  obtain ⟨A7, c7, rfl, hA⟩ := toks_of hr7 hn7
                  have al := (Below.refl w7.heap.size w7).alloc (Nat.le_refl _) (.cells #[.int .i64 x, .int .i64 l] 34)
                  have B7 := (B6.trans (hb7.mono B6.size)).alloc (Nat.le_trans B6.size hb7.size) (.cells #[.int .i64 x, .int .i64 l] 34)
                  have P7 := (P6.below hb7).below al
                  have Q7 := (Q6.below hb7).below al
                  have R7 := hA.below al
                  clear hr7 hn7 hb7 hA al B6 P6 Q6
                  go_wp2_with fail
                  generalize w7.alloc (.cells #[.int .i64 x, .int .i64 l] 34) = V7 at B7 P7 Q7 R7 ⊢
                  refine (unhide H4 V7).mono ?_
                  rintro e8 w8 ⟨v8, rfl, hr8, hn8, hb8⟩
                  obtain ⟨A8, c8, rfl, hA⟩ := toks_of hr8 hn8
                  have al := (Below.refl w8.heap.size w8).alloc (Nat.le_refl _) (.cells #[.int .i64 x, .int .i64 l] 34)
                  have B8 := (B7.trans (hb8.mono B7.size)).alloc (Nat.le_trans B7.size hb8.size) (.cells #[.int .i64 x, .int .i64 l] 34)
                  have P8 := (P7.below hb8).below al
                  have Q8 := (Q7.below hb8).below al
                  have R8 := (R7.below hb8).below al
                  have S8 := hA.below al
                  clear hr8 hn8 hb8 hA al B7 P7 Q7 R7
                  go_wp2_with fail
                  generalize w8.alloc (.cells #[.int .i64 x, .int .i64 l] 34) = V8 at B8 P8 Q8 R8 S8 ⊢
                  refine (divided_any V8 (hE.below B8 hE.sz) (hD.below B8 (Nat.le_trans (by decide) hE.sz))).mono ?_
                  rintro e9 w9 ⟨rfl, hb9⟩
                  have B9 := B8.trans (hb9.mono B8.size)
                  have P9 := P8.below hb9
                  have Q9 := Q8.below hb9
                  have R9 := R8.below hb9
                  have S9 := S8.below hb9
                  clear hb9 B8 P8 Q8 R8 S8 H1 H2 H3 H4
                  go_wp2_with fail
                  refine (sameBits_any xs A5 A6 c5 c6 (by omega) w9 P9 Q9).mono ?_
                  rintro e10 w10 ⟨rfl, m10, rfl⟩
                  have B10 := below_drewN' B9 m10
                  have al := below_drewN' (Below.refl w9.heap.size w9) m10
                  have R10 := R9.below al
                  have S10 := S9.below al
                  clear al B9 P9 Q9 R9 S9
                  generalize w9.drewN m10 = V10 at B10 R10 S10 ⊢
                  go_wp2_with fail
                  refine (same_toks ts A7 A8 c7 c8 (by omega) V10 R10 S10).mono ?_
                  rintro e11 w11 ⟨rfl, m11, rfl⟩
                  have B11 := below_drewN' B10 m11
                  clear B10 R10 S10
                  generalize V10.drewN m11 = V11 at B11 ⊢
                  go_wp2_with fail
                  refine (words_any V11 (hE.below B11 hE.sz)).mono ?_
                  rintro e12 W12 ⟨rfl, hW12⟩
                  have hb1 : Blk W12 V11.heap.size (wordsL.map mkV) 9 := by rw [hW12]; exact Blk.new V11 (wordsL.map mkV) 9
                  have B12 : Below w.heap.size w W12 := by rw [hW12]; exact B11.alloc B11.size _
                  clear hW12
                  go_wp2_with fail
                  refine (refWords_any W12).mono ?_
                  rintro e13 W13 ⟨rfl, hW13⟩
                  have hb2 : Blk W13 W12.heap.size (wordsL.map mkV) 9 := by rw [hW13]; exact Blk.new W12 (wordsL.map mkV) 9
                  have hb1' : Blk W13 V11.heap.size (wordsL.map mkV) 9 := by rw [hW13]; exact hb1.alloc _
                  have B13 : Below w.heap.size w W13 := by rw [hW13]; exact B12.alloc B12.size _
                  clear hW13 hb1
                  go_wp2_with fail
                  have hsame := same_any wordsL V11.heap.size W12.heap.size 63 63 (by rw [wordsL_len]; decide) W13 hb1' hb2
                  rw [wordsL_len] at hsame
                  refine hsame.mono ?_
                  rintro e14 W14 ⟨rfl, n14, rfl⟩
                  have B14 := below_drewN' B13 n14
                  generalize W13.drewN n14 = V14 at B14 ⊢
                  clear hsame hb1' hb2 B13 B12 B11
                  go_wp2_with fail
                  refine (signs_any V14 (hE.below B14 hE.sz)).mono ?_
                  rintro e15 W15 ⟨rfl, hW15⟩
                  have hb4 : Blk W15 V14.heap.size (signsL.map mkV) 9 := by rw [hW15]; exact Blk.new V14 (signsL.map mkV) 9
                  have B15 : Below w.heap.size w W15 := by rw [hW15]; exact B14.alloc B14.size _
                  clear hW15
                  go_wp2_with fail
                  refine (refSigns_any W15).mono ?_
                  rintro e16 W16 ⟨rfl, hW16⟩
                  have hb5 : Blk W16 W15.heap.size (signsL.map mkV) 9 := by rw [hW16]; exact Blk.new W15 (signsL.map mkV) 9
                  have hb4' : Blk W16 V14.heap.size (signsL.map mkV) 9 := by rw [hW16]; exact hb4.alloc _
                  have B16 : Below w.heap.size w W16 := by rw [hW16]; exact B15.alloc B15.size _
                  clear hW16 hb4
                  go_wp2_with fail
                  have hsame := same_any signsL V14.heap.size W15.heap.size 23 23 (by rw [signsL_len]; decide) W16 hb4' hb5
                  rw [signsL_len] at hsame
                  refine hsame.mono ?_
                  rintro e17 W17 ⟨rfl, n17, rfl⟩
                  go_wp2_with fail
                  go_ret
                  exact ⟨rfl, below_drewN' B16 n17⟩
theorem own_law (s : ByteArray) (w : World) (hE : Env w) (hD : Db w) : Calls Tryz.prog 12 #[.string s] w fun e w' => e = .returned (.bool true) ∧ Below w.heap.size w w' := by
  by_cases hs : s.size ≤ 1200
  · exact own_small s hs w hE hD
  · have hs' : (1200 : Int) < s.size := by omega
    go_enter Tryz.func12, Tryz.ntmps12
    go_wp2_with fail
    refine (divided_any _ hE hD).mono ?_
    rintro e w1 ⟨rfl, hb⟩
    go_wp2_with fail
    go_ret
    exact ⟨rfl, hb⟩
end Go.Proofs.YteknngncnbfbnaaGreatDoor
