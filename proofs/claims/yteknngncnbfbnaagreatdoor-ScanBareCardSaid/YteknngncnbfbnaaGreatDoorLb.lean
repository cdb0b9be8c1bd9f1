/- ScanBare's function returns true, whatever it is called with (where the variables it reads hold what the program's text lays). -/
import Derived.Test.YteknngncnbfbnaaGreatDoorSb
import Derived.Test.YteknngncnbfbnaaGreatDoorLw
import Derived.RangeFuncNested
import Derived.RangeFuncBound
import Derived.RangeFuncCalls
import Derived.RangeFuncLeaves
import Derived.RangeFuncBox
import Derived.Shelf.Abstract
import Derived.WalkKit
import Derived.OwnWalkIn
import Derived.TacticsInMore
import Derived.LoopNIn
import Derived.LoopIn
import Derived.RecoverIn
import Derived.Maps.AppendAt
import Derived.Outline
import Derived.Handy
import Derived.Deep.LoopGhost
import Derived.RegionTactic
import Derived.ChangeAlike
import Derived.Deep.QuietTactic
import Derived.BigQuiet
import Derived.StillTailTactics
import Derived.Deep.RegionWith
import Derived.LoopTactic
import Derived.OwnWalk
import Derived.Deep.AppendLies
import Derived.Deep.DeepCutAuto
import Derived.KernelRfl
namespace Go.Proofs.YteknngncnbfbnaaGreatDoor
open Go Go.RowKit Go.Shelf
theorem pcsL_err {l : List UInt8} {xs : List Bit} {x n : Nat} (h : pcsL l = (xs, x, n)) (hx : x ≠ 0) : xs = [] := by
  unfold pcsL at h
  split at h
  · injection h with h _; exact h.symm
  · split at h
    · injection h with _ h; injection h with h _; exact absurd h.symm hx
    · injection h with h _; exact h.symm
set_option maxRecDepth 100000 in
set_option maxHeartbeats 4000000 in
theorem bare_bad (s : ByteArray) (hs : s.size ≤ 1200) (x l : Nat) (hp : pcsL (bs s) = ([], x, l)) (hx : x ≠ 0) (w : World) (hE : Env w) (hD : Db w) : Calls Tryz.prog 9 #[.string s] w fun e w' => e = .returned (.bool true) ∧ Below w.heap.size w w' := by
  have hs' : ¬ (1200 : Int) < s.size := by omega
  have h1 := fun W hE => bare_eq s W hE
  have h2 := fun W hE => scan_eq s W hE
  rw [hp] at h1 h2
  unfold BarePost at h1
  rw [show mkS (bareL ([], x, l).1) = ⟨#[]⟩ from rfl] at h1
  have H1 := hide h1
  have H2 := hide h2
  have hx' : ((x : Int) != 0) = true := by simp; omega
  clear h1 h2 hp hx
  go_enter Tryz.func9, Tryz.ntmps9
  go_wp2_with fail
  refine (unhide H1 _ hE).mono ?_
  rintro e1 w1 ⟨rfl, hb1⟩
  go_wp2_with fail
  have K1 := (Cells.nil w1).fault x l
  have B1 := hb1.alloc hb1.size (.cells #[.int .i64 x, .int .i64 l] 34)
  clear hb1
  generalize w1.alloc (.cells #[.int .i64 x, .int .i64 l] 34) = V1 at K1 B1 ⊢
  generalize w1.heap.size = n1 at K1 ⊢
  refine (unhide H2 V1 (hE.below B1 hE.sz)).mono ?_
  rintro e2 w2 ⟨v2, rfl, _, _, hb2⟩
  have K2 := (K1.below hb2).fault x l
  have B2 := (B1.trans (hb2.mono B1.size)).alloc (Nat.le_trans B1.size hb2.size) (.cells #[.int .i64 x, .int .i64 l] 34)
  have a0 := K2.get (a := ⟨n1, 0, none⟩) (v := .int .i64 x) (by simp)
  clear K1 B1 hb2
  go_wp2_with fail
  generalize w2.alloc (.cells #[.int .i64 x, .int .i64 l] 34) = V2 at K2 B2 a0 ⊢
  generalize w2.heap.size = n2 at K2 ⊢
  refine (divided_any V2 (hE.below B2 hE.sz) (hD.below B2 (Nat.le_trans (by decide) hE.sz))).mono ?_
  rintro e3 w3 ⟨rfl, hb3⟩
  have K3 := K2.below hb3
  have B3 := B2.trans (hb3.mono B2.size)
  clear a0 K2 B2 hb3
  have a0 := K3.get (a := ⟨n1, 0, none⟩) (v := .int .i64 x) (by simp)
  have a1 := K3.get (a := ⟨n1, 1, none⟩) (v := .int .i64 l) (by simp)
  have b0 := K3.get (a := ⟨n2, 0, none⟩) (v := .int .i64 x) (by simp)
  have b1 := K3.get (a := ⟨n2, 1, none⟩) (v := .int .i64 l) (by simp)
  clear K3
  go_wp2_with fail
  go_ret
  exact ⟨rfl, B3⟩
set_option maxRecDepth 100000 in
set_option maxHeartbeats 4000000 in
theorem bare_good (s t : ByteArray) (hs : s.size ≤ 1200) (xs ys : List Bit) (ht : t = mkS (bareL xs)) (hp : pcsL (bs s) = (xs, 0, 0)) (hq : pcsL (bs t) = (ys, 0, 0)) (hts : t.size = s.size) (hk : ∀ y ∈ ys, y.1 ≤ 6) (hb : mkS (bareL ys) = t) (htk : toksL 1 ys = toksL 1 xs) (w : World) (hE : Env w) (hD : Db w) : Calls Tryz.prog 9 #[.string s] w fun e w' => e = .returned (.bool true) ∧ Below w.heap.size w w' := by
  have hs' : ¬ (1200 : Int) < s.size := by omega
  have h1 := fun W hE => bare_eq s W hE
  have h2 := fun W hE => scan_eq s W hE
  have h3 := fun W hE => scan_eq t W hE
  have h4 := fun W hE => pieces_eq t W hE
  have h5 := fun W hE => bare_eq t W hE
  have hl1 := (pcsL_le (bs s)).1
  have hl2 := (pcsL_le (bs t)).1
  rw [hp] at h1 h2 hl1
  rw [hq] at h3 h4 h5 hl2
  simp only at h1 h2 h3 h4 h5 hl1 hl2
  unfold BarePost at h1 h5
  rw [← ht] at h1
  rw [hb] at h5
  unfold ScanPost at h3
  rw [htk] at h3
  have H1 := hide h1
  have H2 := hide h2
  have H3 := hide h3
  have H4 := hide h4
  have H5 := hide h5
  have htl := Nat.le_trans (toksL_len xs 1) hl1
  have HK := Lib.hid hk
  have hti : (t.size : Int) = s.size := by omega
  clear h1 h2 h3 h4 h5 hp hq ht hb htk hk hts
  obtain ⟨ts, hts⟩ : ∃ ts, toksL 1 xs = ts := ⟨_, rfl⟩
  unfold ScanPost at H2
  rw [hts] at H2 H3 htl
  clear hts
  go_enter Tryz.func9, Tryz.ntmps9
  go_wp2_with fail
  refine (unhide H1 _ hE).mono ?_
  rintro e1 w1 ⟨rfl, hb1⟩
  go_wp2_with fail
  have K1 := (Cells.nil w1).fault 0 0
  have B1 := hb1.alloc hb1.size (.cells #[.int .i64 0, .int .i64 0] 34)
  clear hb1
  generalize w1.alloc (.cells #[.int .i64 0, .int .i64 0] 34) = V1 at K1 B1 ⊢
  generalize w1.heap.size = n1 at K1 ⊢
  refine (unhide H2 V1 (hE.below B1 hE.sz)).mono ?_
  rintro e2 w2 ⟨v2, rfl, hr2, hn2, hb2⟩
  obtain ⟨A2, c2, rfl, hA⟩ := toks_of hr2 hn2
  clear hr2 hn2
  have K2 := (K1.below hb2).fault 0 0
  have B2 := (B1.trans (hb2.mono B1.size)).alloc (Nat.le_trans B1.size hb2.size) (.cells #[.int .i64 0, .int .i64 0] 34)
  have P2 := hA.below ((Below.refl w2.heap.size w2).alloc (Nat.le_refl _) (.cells #[.int .i64 0, .int .i64 0] 34))
  have a0 := K2.get (a := ⟨n1, 0, none⟩) (v := .int .i64 0) (by simp)
  clear K1 B1 hb2 hA
  go_wp2_with fail
  clear a0
  generalize w2.alloc (.cells #[.int .i64 0, .int .i64 0] 34) = V2 at K2 B2 P2 ⊢
  generalize w2.heap.size = n2 at K2 ⊢
  refine (unhide H3 V2 (hE.below B2 hE.sz)).mono ?_
  rintro e3 w3 ⟨v3, rfl, hr3, hn3, hb3⟩
  obtain ⟨A3, c3, rfl, hA⟩ := toks_of hr3 hn3
  clear hr3 hn3
  have K3 := (K2.below hb3).fault 0 0
  have B3 := (B2.trans (hb3.mono B2.size)).alloc (Nat.le_trans B2.size hb3.size) (.cells #[.int .i64 0, .int .i64 0] 34)
  have al := (Below.refl w3.heap.size w3).alloc (Nat.le_refl _) (.cells #[.int .i64 0, .int .i64 0] 34)
  have P3 := (P2.below hb3).below al
  have Q3 := hA.below al
  clear K2 B2 P2 hb3 hA al
  go_wp2_with fail
  generalize w3.alloc (.cells #[.int .i64 0, .int .i64 0] 34) = V3 at K3 B3 P3 Q3 ⊢
  generalize w3.heap.size = n3 at K3 ⊢
  refine (unhide H4 V3 (hE.below B3 hE.sz)).mono ?_
  rintro e4 w4 ⟨v4, rfl, hH, hb4⟩
  obtain ⟨A4, c4, rfl, hA⟩ := hH.bits
  clear hH
  have K4 := (K3.below hb4).fault 0 0
  have B4 := (B3.trans (hb4.mono B3.size)).alloc (Nat.le_trans B3.size hb4.size) (.cells #[.int .i64 0, .int .i64 0] 34)
  have al := (Below.refl w4.heap.size w4).alloc (Nat.le_refl _) (.cells #[.int .i64 0, .int .i64 0] 34)
  have P4 := (P3.below hb4).below al
  have Q4 := (Q3.below hb4).below al
  have R4 := hA.below al
  clear K3 B3 P3 Q3 hb4 hA al
  go_wp2_with fail
  generalize w4.alloc (.cells #[.int .i64 0, .int .i64 0] 34) = V4 at K4 B4 P4 Q4 R4 ⊢
  generalize w4.heap.size = n4 at K4 ⊢
  refine (unhide H5 V4 (hE.below B4 hE.sz)).mono ?_
  rintro e5 w5 ⟨rfl, hb5⟩
  have K5 := (K4.below hb5).fault 0 0
  have B5 := (B4.trans (hb5.mono B4.size)).alloc (Nat.le_trans B4.size hb5.size) (.cells #[.int .i64 0, .int .i64 0] 34)
  have hb5' := hb5.alloc hb5.size (.cells #[.int .i64 0, .int .i64 0] 34)
  have P5 := P4.below hb5'
  have Q5 := Q4.below hb5'
  have R5 := R4.below hb5'
  clear K4 B4 P4 Q4 R4 hb5 hb5' H1 H2 H3 H4 H5
  have a0 := K5.get (a := ⟨n2, 0, none⟩) (v := .int .i64 0) (by simp)
  have a1 := K5.get (a := ⟨n3, 0, none⟩) (v := .int .i64 0) (by simp)
  have a2 := K5.get (a := ⟨n4, 0, none⟩) (v := .int .i64 0) (by simp)
  have a3 := K5.get (a := ⟨w5.heap.size, 0, none⟩) (v := .int .i64 0) (by simp)
  clear K5
  go_wp2_with fail
  generalize w5.alloc (.cells #[.int .i64 0, .int .i64 0] 34) = V5 at B5 P5 Q5 R5 a0 a1 a2 a3 ⊢
  refine (same_toks ts A2 A3 c2 c3 (by omega) V5 P5 Q5).mono ?_
  rintro e6 w6 ⟨rfl, m6, rfl⟩
  have B6 := below_drewN' B5 m6
  have R6 := hide (R5.below (below_drewN' (Below.refl _ V5) m6))
  clear a0 a1 a2 a3 B5 P5 Q5 R5
  generalize V5.drewN m6 = V6 at B6 R6 ⊢
  go_wp2_with fail
  go_loopw [94] (fun i wr => ∃ k : Nat, k ≤ ys.length ∧ i = .int .i64 k ∧ wr = V6) (fun i _ => ys.length - (intOf i).toNat)
  case atStart => exact ⟨0, Nat.zero_le _, rfl, rfl⟩
  case round =>
    obtain ⟨k, hk, rfl, rfl⟩ := hrel
    by_cases hlt : k < ys.length
    · obtain ⟨g, rfl, hg, c0, _⟩ := unhide R6 k _ (List.getElem?_eq_getElem hlt)
      have h6 := HK.out _ (List.getElem_mem hlt)
      generalize ys[k].1 = kd at c0 h6
      have h6' : ¬ (6 : Int) < kd := by omega
      go_wp2_with fail
      go_roundw
      case rel => exact ⟨k + 1, by omega, by go_num, trivial⟩
      case measure => simp [intOf]; omega
    · obtain rfl : k = ys.length := by omega
      go_wp2_with fail
      refine (divided_any _ (hE.below B6 hE.sz) (hD.below B6 (Nat.le_trans (by decide) hE.sz))).mono ?_
      rintro e7 w7 ⟨rfl, hb7⟩
      go_wp2_with fail
      go_ret
      exact ⟨rfl, B6.trans (hb7.mono B6.size)⟩
theorem bare_law (s : ByteArray) (w : World) (hE : Env w) (hD : Db w) : Calls Tryz.prog 9 #[.string s] w fun e w' => e = .returned (.bool true) ∧ Below w.heap.size w w' := by
  by_cases hs : s.size ≤ 1200
  · obtain ⟨p, hp⟩ : ∃ p, pcsL (bs s) = p := ⟨_, rfl⟩
    obtain ⟨xs, x, l⟩ := p
    by_cases hx : x = 0
    · subst hx
      obtain ⟨_, _, rfl⟩ := pcsL_ok hp
      obtain ⟨hl, hq, hk, hb, htk⟩ := bare_all hp
      refine bare_good s (mkS (bareL xs)) hs xs (bareP xs) rfl hp (by rw [bs_mkS]; exact hq) ?_ hk (by rw [hb]) htk w hE hD
      rw [← bs_len, bs_mkS, hl, bs_len]
    · obtain rfl := pcsL_err hp hx
      exact bare_bad s hs x l hp hx w hE hD
  · have hs' : (1200 : Int) < s.size := by omega
    go_enter Tryz.func9, Tryz.ntmps9
    go_wp2_with fail
    refine (divided_any _ hE hD).mono ?_
    rintro e w1 ⟨rfl, hb⟩
    go_wp2_with fail
    go_ret
    exact ⟨rfl, hb⟩
end Go.Proofs.YteknngncnbfbnaaGreatDoor
