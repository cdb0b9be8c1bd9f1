/- ScanNumbers' function returns true, whatever it is called with (where the variables it reads hold what the program's text lays). -/
import Derived.Test.YteknngncnbfbnaaGreatDoorRn
import Derived.Test.YteknngncnbfbnaaGreatDoorLw
import Derived.RangeFuncNested
import Derived.RangeFuncBound
import Derived.RangeFuncCalls
import Derived.RangeFuncLeaves
import Derived.RangeFuncBox
import Derived.Shelf.Abstract
import Derived.WalkKit
import Derived.OwnWalkIn
import Derived.TacticsInMore
import Derived.LoopNIn
import Derived.LoopIn
import Derived.RecoverIn
import Derived.Maps.AppendAt
import Derived.Outline
import Derived.Handy
import Derived.Deep.LoopGhost
import Derived.RegionTactic
import Derived.ChangeAlike
import Derived.Deep.QuietTactic
import Derived.BigQuiet
import Derived.StillTailTactics
import Derived.Deep.RegionWith
import Derived.LoopTactic
import Derived.OwnWalk
import Derived.Deep.AppendLies
import Derived.Deep.DeepCutAuto
import Derived.KernelRfl
namespace Go.Proofs.YteknngncnbfbnaaGreatDoor
open Go Go.RowKit Go.Shelf
theorem flat_one (kd : Nat) (t : ByteArray) : (flatB [(kd, t)])[0]? = some (.int .u8 kd) ∧ (flatB [(kd, t)])[1]? = some (.string t) := ⟨rfl, rfl⟩
/-- What Pieces makes of the digits of a number. -/
theorem pcs_one (n b : Nat) (hn : n ≤ 1000000000) (h1 : 2 ≤ b) (h2 : b ≤ 16) (w : World) (hE : Env w) : Calls Tryz.prog 29 #[.string (mkS (digsL n b))] w fun e w' => ∃ g cap, e = .returned (.tuple #[.slice (some ⟨g, 0, none⟩) 1 cap, .agg #[.int .i64 0, .int .i64 0]]) ∧ Below w.heap.size w w' ∧ g < w'.heap.size ∧ w'.cell? ⟨g, 0, none⟩ = some (.int .u8 3) ∧ w'.cell? ⟨g, 1, none⟩ = some (.string (mkS (digsL n b))) := by
  have h := pieces_eq (mkS (digsL n b)) w hE
  rw [bs_mkS, pcs_digs hn h1 h2] at h
  refine h.mono ?_
  rintro e w' ⟨v, rfl, hH, hB⟩
  have h1 : w'.ownsRow w.heap.size 38 2 v 1 (flatB [(3, mkS (digsL n b))]) := hH.1
  obtain ⟨g, cap, rfl, hlt, hc⟩ := World.ownsRow.at_ h1 (by decide)
  exact ⟨g, cap, rfl, hB, hlt, hc _ _ (flat_one _ _).1, hc _ _ (flat_one _ _).2⟩
theorem digits_ok (n b : Nat) (hn : n ≤ 1000000000) (h1 : 2 ≤ b) (h2 : b ≤ 16) (w : World) (hE : Env w) (hD : Db w) : Calls Tryz.prog 27 #[.int .i64 n, .int .i64 b] w fun e w' => e = .returned (.tuple #[.string (mkS (digsL n b)), .int .i64 0]) ∧ Below w.heap.size w w' := by
  have hd := digR_ok hn h1 h2
  unfold digR at hd
  rw [if_neg (by omega)] at hd
  by_cases h : b = 10
  · subst h
    rw [if_pos (by rfl)] at hd
    injection hd with hd _
    rw [← hd]
    exact digits_ten n hn w hE
  · rw [if_neg (by omega)] at hd
    injection hd with hd _
    simp only [Int.toNat_natCast] at hd
    rw [← hd]
    exact digits_base n b hn h1 h2 h w hE hD
theorem value_digs (n b : Nat) (hn : n ≤ 1000000000) (h1 : 2 ≤ b) (h2 : b ≤ 16) (w : World) (hE : Env w) : Calls Tryz.prog 25 #[.string (mkS (digsL n b))] w fun e w' => e = .returned (.tuple #[.int .i64 n, .int .i64 0]) ∧ ∃ m, w' = w.drewN m := by
  have hl := digs_len hn h1 h2
  have h := value_any (mkS (digsL n b)) (by rw [← bs_len, bs_mkS]; omega) w hE
  rw [bs_mkS, valR_digs hn h1 h2] at h
  exact h
set_option maxRecDepth 100000 in
set_option maxHeartbeats 4000000 in
theorem numbers_bad (s : ByteArray) (n b : Int) (hs : s.size ≤ 80) (h : n < 0 ∨ 1000000000 < n ∨ b < 2 ∨ 16 < b) (w : World) (hE : Env w) (hD : Db w) : Calls Tryz.prog 4 #[.string s, .int .i64 n, .int .i64 b] w fun e w' => e = .returned (.bool true) ∧ Below w.heap.size w w' := by
  have h80 : ¬ (80 : Int) < s.size := by omega
  have H1 := hide (value_any s (by omega) w hE)
  have H2 := hide (fun W => refValue_any s (by omega) W)
  have H3 := hide (fun W => digits_bad n b h W)
  have H4 := hide (fun W => refDigits_bad n b h W)
  clear h
  revert H1 H2
  generalize optN (valR (bs s)) = x
  generalize errN (valR (bs s)) = y
  intro H1 H2
  go_enter Tryz.func4, Tryz.ntmps4
  go_wp2_with fail
  refine (unhide H1).mono ?_
  rintro e W1 ⟨rfl, n1, rfl⟩
  have B1 := below_drewN' (Below.refl w.heap.size w) n1
  generalize w.drewN n1 = W1 at B1 ⊢
  go_wp2_with fail
  refine (unhide H2 _).mono ?_
  rintro e W2 ⟨rfl, n2, rfl⟩
  have B2 := below_drewN' B1 n2
  generalize W1.drewN n2 = W2 at B2 ⊢
  go_wp2_with fail
  refine (unhide H3 _).mono ?_
  rintro e W3 ⟨rfl, rfl⟩
  go_wp2_with fail
  refine (unhide H4 _).mono ?_
  rintro e W4 ⟨rfl, rfl⟩
  go_wp2_with fail
  refine (divided_any _ (hE.below B2 hE.sz) (hD.below B2 (Nat.le_trans (by decide) hE.sz))).mono ?_
  rintro e W5 ⟨rfl, hb5⟩
  have B5 := B2.trans (hb5.mono B2.size)
  go_wp2_with fail
  go_ret
  exact ⟨rfl, B5⟩
set_option maxRecDepth 100000 in
set_option maxHeartbeats 4000000 in
theorem numbers_good (s : ByteArray) (n b : Nat) (hs : s.size ≤ 80) (hn : n ≤ 1000000000) (hb1 : 2 ≤ b) (hb2 : b ≤ 16) (w : World) (hE : Env w) (hD : Db w) : Calls Tryz.prog 4 #[.string s, .int .i64 n, .int .i64 b] w fun e w' => e = .returned (.bool true) ∧ Below w.heap.size w w' := by
  have h80 : ¬ (80 : Int) < s.size := by omega
  have H1 := hide (value_any s (by omega) w hE)
  have H2 := hide (fun W => refValue_any s (by omega) W)
  have H3 := hide (fun W hE hD => digits_ok n b hn hb1 hb2 W hE hD)
  have H4 := hide (fun W => refDigits_ok n b hn hb1 hb2 W)
  have H5 := hide (fun W hE => value_digs n b hn hb1 hb2 W hE)
  have H6 := hide (fun W hE => pcs_one n b hn hb1 hb2 W hE)
  revert H1 H2 H3 H4 H5 H6
  generalize optN (valR (bs s)) = x
  generalize errN (valR (bs s)) = y
  generalize mkS (digsL n b) = t
  intro H1 H2 H3 H4 H5 H6
  clear hn hb1 hb2
  go_enter Tryz.func4, Tryz.ntmps4
  go_wp2_with fail
  refine (unhide H1).mono ?_
  rintro e W1 ⟨rfl, n1, rfl⟩
  have B1 := below_drewN' (Below.refl w.heap.size w) n1
  generalize w.drewN n1 = W1 at B1 ⊢
  go_wp2_with fail
  refine (unhide H2 _).mono ?_
  rintro e W2 ⟨rfl, n2, rfl⟩
  have B2 := below_drewN' B1 n2
  generalize W1.drewN n2 = W2 at B2 ⊢
  go_wp2_with fail
  refine (unhide H3 _ (hE.below B2 hE.sz) (hD.below B2 (Nat.le_trans (by decide) hE.sz))).mono ?_
  rintro e W3 ⟨rfl, hb3⟩
  have B3 := B2.trans (hb3.mono B2.size)
  clear hb3
  go_wp2_with fail
  refine (unhide H4 _).mono ?_
  rintro e W4 ⟨rfl, n4, rfl⟩
  have B4 := below_drewN' B3 n4
  generalize W3.drewN n4 = W4 at B4 ⊢
  go_wp2_with fail
  refine (unhide H5 _ (hE.below B4 hE.sz)).mono ?_
  rintro e W5 ⟨rfl, n5, rfl⟩
  have B5 := below_drewN' B4 n5
  generalize W4.drewN n5 = W5 at B5 ⊢
  go_wp2_with fail
  refine (unhide H6 _ (hE.below B5 hE.sz)).mono ?_
  rintro e W6 ⟨g, cap, rfl, hb6, hg6, p0, p1⟩
  have K6 := (((Cells.nil W6).add hg6 p0).add hg6 p1).fault 0 0
  have B6 := (B5.trans (hb6.mono B5.size)).alloc (Nat.le_trans B5.size hb6.size) (.cells #[.int .i64 0, .int .i64 0] 34)
  clear p0 p1 hg6 hb6
  go_wp2_with fail
  generalize W6.alloc (.cells #[.int .i64 0, .int .i64 0] 34) = V6 at K6 B6 ⊢
  generalize W6.heap.size = n6 at K6 ⊢
  refine (divided_any _ (hE.below B6 hE.sz) (hD.below B6 (Nat.le_trans (by decide) hE.sz))).mono ?_
  rintro e W7 ⟨rfl, hb7⟩
  have B7 := B6.trans (hb7.mono B6.size)
  have K7 := K6.below hb7
  clear K6 B6 hb7
  have c0 := K7.get (a := ⟨n6, 0, none⟩) (v := .int .i64 0) (by simp)
  have c1 := K7.get (a := ⟨n6, 1, none⟩) (v := .int .i64 0) (by simp)
  have c2 := K7.get (a := ⟨g, 0, none⟩) (v := .int .u8 3) (by simp)
  have c3 := K7.get (a := ⟨g, 1, none⟩) (v := .string t) (by simp)
  go_wp2_with fail
  go_ret
  exact ⟨rfl, B7⟩
theorem numbers_law (s : ByteArray) (n b : Int) (w : World) (hE : Env w) (hD : Db w) : Calls Tryz.prog 4 #[.string s, .int .i64 n, .int .i64 b] w fun e w' => e = .returned (.bool true) ∧ Below w.heap.size w w' := by
  by_cases h80 : s.size ≤ 80
  · by_cases h : n < 0 ∨ 1000000000 < n ∨ b < 2 ∨ 16 < b
    · exact numbers_bad s n b h80 h w hE hD
    · obtain ⟨m, rfl⟩ : ∃ m : Nat, n = m := ⟨n.toNat, by omega⟩
      obtain ⟨c, rfl⟩ : ∃ c : Nat, b = c := ⟨b.toNat, by omega⟩
      exact numbers_good s m c h80 (by omega) (by omega) (by omega) w hE hD
  · have h80' : (80 : Int) < s.size := by omega
    go_enter Tryz.func4, Tryz.ntmps4
    go_wp2_with (go_at_call 13; refine (divided_any w hE hD).mono ?_; rintro e w1 ⟨rfl, hb⟩)
    go_ret
    exact ⟨rfl, hb⟩
end Go.Proofs.YteknngncnbfbnaaGreatDoor
