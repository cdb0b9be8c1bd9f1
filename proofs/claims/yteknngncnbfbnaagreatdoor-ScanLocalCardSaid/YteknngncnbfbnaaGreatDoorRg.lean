/- The reference's First, arm by arm. -/
import Derived.Test.YteknngncnbfbnaaGreatDoorMc
import Derived.Test.YteknngncnbfbnaaGreatDoorRs
import Derived.Test.YteknngncnbfbnaaGreatDoorAh
import Derived.RangeFuncNested
import Derived.RangeFuncBound
import Derived.RangeFuncCalls
import Derived.RangeFuncLeaves
import Derived.RangeFuncBox
import Derived.Shelf.Abstract
import Derived.WalkKit
import Derived.OwnWalkIn
import Derived.TacticsInMore
import Derived.LoopNIn
import Derived.LoopIn
import Derived.RecoverIn
import Derived.Maps.AppendAt
import Derived.Outline
import Derived.Handy
import Derived.Deep.LoopGhost
import Derived.RegionTactic
import Derived.ChangeAlike
import Derived.Deep.QuietTactic
import Derived.BigQuiet
import Derived.StillTailTactics
import Derived.Deep.RegionWith
import Derived.LoopTactic
import Derived.OwnWalk
import Derived.Deep.AppendLies
import Derived.Deep.DeepCutAuto
import Derived.KernelRfl
namespace Go.Proofs.YteknngncnbfbnaaGreatDoor
open Go Go.RowKit Go.Shelf
theorem bs_ext_eq (s : ByteArray) (a n : Nat) : (s.extract a (a + n)).toList = ((bs s).drop a).take n := by
  rw [toList_bs, bs_mid]
  congr 1
  omega
theorem pre_take (l t : List UInt8) (h : t.length ≤ l.length) : (l.take t.length == t) = preB l t := by
  have := Lib.occAt_iff_take l t 0 (by omega)
  rw [List.drop_zero] at this
  rw [← this]; rfl
set_option maxHeartbeats 800000 in
theorem found_any (s t : ByteArray) (k0 : Nat) (hk0 : k0 ≤ s.size) (ht : 1 ≤ t.size) (ht2 : t.size ≤ 10) (hs : s.size ≤ 9223372036854775000) (w : World) : Calls Tryz.prog 88 #[.string s, .int .i64 k0, .string t] w fun e w' => e = .returned (.int .i64 (foundL (bs s) k0 (bs t))) ∧ w = w' := by
  go_enter Tryz.func88, Tryz.ntmps88
  go_wp2
  go_loopw [7] (fun i wr => ∃ k : Nat, k ≤ s.size ∧ i = .int .i64 k ∧ wr = w ∧ Hid (foundL (bs s) k0 (bs t) = foundL (bs s) k (bs t))) (fun i _ => s.size - (intOf i).toNat)
  case atStart => exact ⟨k0, hk0, rfl, rfl, Lib.hid rfl⟩
  case round =>
    obtain ⟨k, hk, rfl, rfl, HF⟩ := hrel
    by_cases hlt : k + t.size ≤ s.size
    · have hlt' : (k : Int) + t.size ≤ s.size := by omega
      have hpt : ((s.extract k (k + t.size)).toList == t.toList) = preB ((bs s).drop k) (bs t) := by
        have h1 := pre_take ((bs s).drop k) (bs t) (by rw [List.length_drop, bs_len, bs_len]; omega)
        rw [bs_len] at h1
        rw [bs_ext_eq, toList_bs, h1]
      cases hp : preB ((bs s).drop k) (bs t) with
      | true =>
        have HE := Lib.hid (show foundL (bs s) k0 (bs t) = k + t.size by rw [HF.out, foundL_hit hp, bs_len])
        rw [hp] at hpt
        clear HF hp hk0
        go_wp2
        go_ret
        exact ⟨by rw [HE.out]; simp, rfl⟩
      | false =>
        have HN := Lib.hid (show foundL (bs s) k0 (bs t) = foundL (bs s) (k + 1) (bs t) by rw [HF.out, foundL_next (by rw [bs_len]; omega) hp])
        rw [hp] at hpt
        clear HF hp hk0
        go_wp2
        go_roundw
        case rel => exact ⟨k + 1, by omega, by go_num, trivial, HN⟩
        case measure => simp [intOf]; omega
    · have hlt' : ¬ (k : Int) + t.size ≤ s.size := by omega
      have HE := Lib.hid (show foundL (bs s) k0 (bs t) = 0 by rw [HF.out, foundL_end (by rw [bs_len, bs_len]; omega) (by rw [bs_len]; exact hk)])
      clear HF hk0
      go_wp2
      go_ret
      exact ⟨by rw [HE.out]; rfl, rfl⟩
/-- Where a comment closes, from a place on; 0: nowhere. -/
def cloN (k : Nat) : Option Nat → Nat | none => 0 | some n => k + n
theorem cloN_map (k j : Nat) (o : Option Nat) : cloN k (o.map (· + j)) = cloN (k + j) o := by
  cases o with
  | none => rfl
  | some n => show k + (n + j) = k + j + n; omega
theorem two_eq {s : ByteArray} {k : Nat} (h : k + 1 < s.size) : (s.extract k (k + 2)).toList = [s[k], s[k + 1]] := by
  rw [bs_ext_eq, bs_at s k (by omega), bs_at s (k + 1) h]; rfl
theorem close_at {s : ByteArray} {k d : Nat} (h : k + 1 < s.size) : cloN k (closeL d ((bs s).drop k)) =
    if s[k] = 40 ∧ s[k + 1] = 42 then cloN (k + 2) (closeL (d + 1) ((bs s).drop (k + 2)))
    else if s[k] = 42 ∧ s[k + 1] = 41 then (if d = 1 then k + 2 else cloN (k + 2) (closeL (d - 1) ((bs s).drop (k + 2))))
    else cloN (k + 1) (closeL d ((bs s).drop (k + 1))) := by
  have e : (bs s).drop (k + 1) = s[k + 1] :: (bs s).drop (k + 2) := bs_at s (k + 1) h
  rw [bs_at s k (by omega), e, closeL_three]
  split
  · rw [cloN_map]
  · split
    · split
      · rfl
      · rw [cloN_map]
    · rw [cloN_map]
theorem close_end {s : ByteArray} {k d : Nat} (h : ¬ k + 1 < s.size) : cloN k (closeL d ((bs s).drop k)) = 0 := by
  have hl : ((bs s).drop k).length ≤ 1 := by rw [List.length_drop, bs_len]; omega
  match hm : (bs s).drop k, hl with
  | [], _ => rfl
  | [a], _ => rfl
set_option maxHeartbeats 1600000 in
theorem closing_any (s : ByteArray) (h2 : 2 ≤ s.size) (hs : s.size ≤ 9223372036854775000) (w : World) : Calls Tryz.prog 87 #[.string s] w fun e w' => e = .returned (.int .i64 (cloN 2 (closeL 1 ((bs s).drop 2)))) ∧ w = w' := by
  go_enter Tryz.func87, Tryz.ntmps87
  go_wp2
  go_loopw [3, 4] (fun o i wr => ∃ k d : Nat, k ≤ s.size ∧ 1 ≤ d ∧ d ≤ k ∧ i = .int .i64 k ∧ o = .int .i64 d ∧ wr = w ∧ Hid (cloN 2 (closeL 1 ((bs s).drop 2)) = cloN k (closeL d ((bs s).drop k)))) (fun _ i _ => s.size - (intOf i).toNat)
  case atStart => exact ⟨2, 1, h2, by omega, by omega, rfl, rfl, rfl, Lib.hid rfl⟩
  case round =>
    obtain ⟨k, d, hk, hd1, hdk, rfl, rfl, rfl, HF⟩ := hrel
    by_cases hlt : k + 1 < s.size
    · have hlt' : (k : Int) + 1 < s.size := by omega
      have htw := two_eq hlt
      have hc := close_at (d := d) hlt
      by_cases ho : s[k] = 40 ∧ s[k + 1] = 42
      · rw [if_pos ho] at hc
        have e1 : ((s.extract k (k + 2)).toList == [40, 42]) = true := by rw [htw, ho.1, ho.2]; rfl
        have e2 : ((s.extract k (k + 2)).toList == [42, 41]) = false := by rw [htw, ho.1, ho.2]; rfl
        have e3 : ((d : Int) + 1 == 0) = false := by simp; omega
        have HN := Lib.hid (HF.out.trans hc)
        clear htw hc ho HF
        go_wp2
        go_roundw
        case rel => exact ⟨k + 2, d + 1, by omega, by omega, by omega, by go_num, by go_num, trivial, HN⟩
        case measure => simp [intOf]; omega
      · rw [if_neg ho] at hc
        have e1 : ((s.extract k (k + 2)).toList == [40, 42]) = false := by
          rw [htw, beq_eq_false_iff_ne]
          intro h; injection h with h1 h; injection h with h2 _; exact ho ⟨h1, h2⟩
        by_cases hcl : s[k] = 42 ∧ s[k + 1] = 41
        · rw [if_pos hcl] at hc
          have e2 : ((s.extract k (k + 2)).toList == [42, 41]) = true := by rw [htw, hcl.1, hcl.2]; rfl
          by_cases h1 : d = 1
          · subst h1
            rw [if_pos rfl] at hc
            have HN := Lib.hid (HF.out.trans hc)
            clear htw hc ho hcl HF
            go_wp2
            go_ret
            exact ⟨by rw [HN.out]; simp; omega, rfl⟩
          · rw [if_neg h1] at hc
            have e3 : ((d : Int) - 1 == 0) = false := by simp; omega
            have HN := Lib.hid (HF.out.trans hc)
            clear htw hc ho hcl HF
            go_wp2
            go_roundw
            case rel => exact ⟨k + 2, d - 1, by omega, by omega, by omega, by go_num, by go_num, trivial, HN⟩
            case measure => simp [intOf]; omega
        · rw [if_neg hcl] at hc
          have e2 : ((s.extract k (k + 2)).toList == [42, 41]) = false := by
            rw [htw, beq_eq_false_iff_ne]
            intro h; injection h with h1 h; injection h with h2 _; exact hcl ⟨h1, h2⟩
          have e3 : ((d : Int) == 0) = false := by simp; omega
          have HN := Lib.hid (HF.out.trans hc)
          clear htw hc ho hcl HF
          go_wp2
          go_roundw
          case rel => exact ⟨k + 1, d, by omega, by omega, by omega, by go_num, rfl, trivial, HN⟩
          case measure => simp [intOf]; omega
    · have hlt' : ¬ (k : Int) + 1 < s.size := by omega
      have HN := Lib.hid (HF.out.trans (close_end hlt))
      clear HF
      go_wp2
      go_ret
      exact ⟨by rw [HN.out]; rfl, rfl⟩
set_option maxRecDepth 100000 in
set_option maxHeartbeats 1000000 in
theorem f0A (s : ByteArray) (hs : s.size ≤ 20000) (h0 : 0 < s.size) (h1 : (1 : Int) < s.size) (C : Int) (HC : Hid (∀ W : World, Calls Tryz.prog 49 #[.int .u8 (s[0].toNat : Int)] W fun e w' => e = .returned (.int .u8 C) ∧ W = w')) (e98 : (C == 98) = true) (n : Nat) (HS : Hid (∀ W : World, Calls Tryz.prog 50 #[.string s, .int .u8 98, .int .u8 98] W fun e w' => e = .returned (.int .i64 (n : Int)) ∧ W = w')) (w : World) :
    Calls Tryz.prog 66 #[.string s] w fun e w' => e = .returned (.tuple #[.int .u8 6, .int .i64 n, .int .i64 0]) ∧ Below w.heap.size w w' := by
  go_enter Tryz.func66, Tryz.ntmps66
  go_wp2_with (go_at_call 49; refine (unhide HC _).mono ?_; rintro e1 w1 ⟨rfl, rfl⟩)
  refine (unhide HS _).mono ?_
  rintro e2 w2 ⟨rfl, rfl⟩
  go_wp2_with fail
  go_ret3
  exact ⟨rfl, Below.refl _ _⟩
set_option maxRecDepth 100000 in
set_option maxHeartbeats 1000000 in
theorem f1noA (s : ByteArray) (hs : s.size ≤ 20000) (h0 : 0 < s.size) (h1 : (1 : Int) < s.size) (C : Int) (HC : Hid (∀ W : World, Calls Tryz.prog 49 #[.int .u8 (s[0].toNat : Int)] W fun e w' => e = .returned (.int .u8 C) ∧ W = w')) (e98 : (C == 98) = false) (t1 : ((s.extract 0 2).toList == [40, 42]) = true) (HS : Hid (∀ W : World, Calls Tryz.prog 87 #[.string s] W fun e w' => e = .returned (.int .i64 0) ∧ W = w')) (w : World) :
    Calls Tryz.prog 66 #[.string s] w fun e w' => e = .returned (.tuple #[.int .u8 0, .int .i64 0, .int .i64 13]) ∧ Below w.heap.size w w' := by
  go_enter Tryz.func66, Tryz.ntmps66
  go_wp2_with (go_at_call 49; refine (unhide HC _).mono ?_; rintro e1 w1 ⟨rfl, rfl⟩)
  refine (unhide HS _).mono ?_
  rintro e2 w2 ⟨rfl, rfl⟩
  go_wp2_with fail
  go_ret3
  exact ⟨rfl, Below.refl _ _⟩
set_option maxRecDepth 100000 in
set_option maxHeartbeats 1000000 in
theorem f1okA (s : ByteArray) (hs : s.size ≤ 20000) (h0 : 0 < s.size) (h1 : (1 : Int) < s.size) (C : Int) (HC : Hid (∀ W : World, Calls Tryz.prog 49 #[.int .u8 (s[0].toNat : Int)] W fun e w' => e = .returned (.int .u8 C) ∧ W = w')) (e98 : (C == 98) = false) (t1 : ((s.extract 0 2).toList == [40, 42]) = true) (n : Nat) (hn : ((n : Int) == 0) = false) (HS : Hid (∀ W : World, Calls Tryz.prog 87 #[.string s] W fun e w' => e = .returned (.int .i64 (n : Int)) ∧ W = w')) (w : World) :
    Calls Tryz.prog 66 #[.string s] w fun e w' => e = .returned (.tuple #[.int .u8 7, .int .i64 n, .int .i64 0]) ∧ Below w.heap.size w w' := by
  go_enter Tryz.func66, Tryz.ntmps66
  go_wp2_with (go_at_call 49; refine (unhide HC _).mono ?_; rintro e1 w1 ⟨rfl, rfl⟩)
  refine (unhide HS _).mono ?_
  rintro e2 w2 ⟨rfl, rfl⟩
  go_wp2_with fail
  go_ret3
  exact ⟨rfl, Below.refl _ _⟩
set_option maxRecDepth 100000 in
set_option maxHeartbeats 1000000 in
theorem f2noA (s : ByteArray) (hs : s.size ≤ 20000) (h0 : 0 < s.size) (h1 : (1 : Int) < s.size) (C : Int) (HC : Hid (∀ W : World, Calls Tryz.prog 49 #[.int .u8 (s[0].toNat : Int)] W fun e w' => e = .returned (.int .u8 C) ∧ W = w')) (e98 : (C == 98) = false) (t1 : ((s.extract 0 2).toList == [40, 42]) = false) (t2 : ((s.extract 0 2).toList == [60, 42]) = true) (HS : Hid (∀ W : World, Calls Tryz.prog 88 #[.string s, .int .i64 2, .string ⟨#[42, 62]⟩] W fun e w' => e = .returned (.int .i64 0) ∧ W = w')) (w : World) :
    Calls Tryz.prog 66 #[.string s] w fun e w' => e = .returned (.tuple #[.int .u8 0, .int .i64 0, .int .i64 13]) ∧ Below w.heap.size w w' := by
  go_enter Tryz.func66, Tryz.ntmps66
  go_wp2_with (go_at_call 49; refine (unhide HC _).mono ?_; rintro e1 w1 ⟨rfl, rfl⟩)
  refine (unhide HS _).mono ?_
  rintro e2 w2 ⟨rfl, rfl⟩
  go_wp2_with fail
  go_ret3
  exact ⟨rfl, Below.refl _ _⟩
set_option maxRecDepth 100000 in
set_option maxHeartbeats 1000000 in
theorem f2okA (s : ByteArray) (hs : s.size ≤ 20000) (h0 : 0 < s.size) (h1 : (1 : Int) < s.size) (C : Int) (HC : Hid (∀ W : World, Calls Tryz.prog 49 #[.int .u8 (s[0].toNat : Int)] W fun e w' => e = .returned (.int .u8 C) ∧ W = w')) (e98 : (C == 98) = false) (t1 : ((s.extract 0 2).toList == [40, 42]) = false) (t2 : ((s.extract 0 2).toList == [60, 42]) = true) (n : Nat) (hn : ((n : Int) == 0) = false) (HS : Hid (∀ W : World, Calls Tryz.prog 88 #[.string s, .int .i64 2, .string ⟨#[42, 62]⟩] W fun e w' => e = .returned (.int .i64 (n : Int)) ∧ W = w')) (w : World) :
    Calls Tryz.prog 66 #[.string s] w fun e w' => e = .returned (.tuple #[.int .u8 8, .int .i64 n, .int .i64 0]) ∧ Below w.heap.size w w' := by
  go_enter Tryz.func66, Tryz.ntmps66
  go_wp2_with (go_at_call 49; refine (unhide HC _).mono ?_; rintro e1 w1 ⟨rfl, rfl⟩)
  refine (unhide HS _).mono ?_
  rintro e2 w2 ⟨rfl, rfl⟩
  go_wp2_with fail
  go_ret3
  exact ⟨rfl, Below.refl _ _⟩
set_option maxRecDepth 100000 in
set_option maxHeartbeats 1000000 in
theorem f3wA (s : ByteArray) (hs : s.size ≤ 20000) (h0 : 0 < s.size) (h1 : (1 : Int) < s.size) (C : Int) (HC : Hid (∀ W : World, Calls Tryz.prog 49 #[.int .u8 (s[0].toNat : Int)] W fun e w' => e = .returned (.int .u8 C) ∧ W = w')) (e98 : (C == 98) = false) (t1 : ((s.extract 0 2).toList == [40, 42]) = false) (t2 : ((s.extract 0 2).toList == [60, 42]) = false) (e97 : (C == 97) = true) (n : Nat) (hn : n ≤ s.size) (HS : Hid (∀ W : World, Calls Tryz.prog 50 #[.string s, .int .u8 97, .int .u8 100] W fun e w' => e = .returned (.int .i64 (n : Int)) ∧ W = w')) (HW : Hid (∀ W : World, Calls Tryz.prog 22 #[.string (s.extract 0 n)] W fun e w' => e = .returned (.bool true) ∧ Below W.heap.size W w')) (w : World) :
    Calls Tryz.prog 66 #[.string s] w fun e w' => e = .returned (.tuple #[.int .u8 2, .int .i64 n, .int .i64 0]) ∧ Below w.heap.size w w' := by
  go_enter Tryz.func66, Tryz.ntmps66
  go_wp2_with (go_at_call 49; refine (unhide HC _).mono ?_; rintro e1 w1 ⟨rfl, rfl⟩)
  refine (unhide HS _).mono ?_
  rintro e2 w2 ⟨rfl, rfl⟩
  go_wp2_with fail
  refine (unhide HW _).mono ?_
  rintro e3 w3 ⟨rfl, hb⟩
  go_wp2_with fail
  go_ret3
  exact ⟨rfl, hb⟩
set_option maxRecDepth 100000 in
set_option maxHeartbeats 1000000 in
theorem f3lA (s : ByteArray) (hs : s.size ≤ 20000) (h0 : 0 < s.size) (h1 : (1 : Int) < s.size) (C : Int) (HC : Hid (∀ W : World, Calls Tryz.prog 49 #[.int .u8 (s[0].toNat : Int)] W fun e w' => e = .returned (.int .u8 C) ∧ W = w')) (e98 : (C == 98) = false) (t1 : ((s.extract 0 2).toList == [40, 42]) = false) (t2 : ((s.extract 0 2).toList == [60, 42]) = false) (e97 : (C == 97) = true) (n : Nat) (hn : n ≤ s.size) (h12 : (12 : Int) < n) (HS : Hid (∀ W : World, Calls Tryz.prog 50 #[.string s, .int .u8 97, .int .u8 100] W fun e w' => e = .returned (.int .i64 (n : Int)) ∧ W = w')) (HW : Hid (∀ W : World, Calls Tryz.prog 22 #[.string (s.extract 0 n)] W fun e w' => e = .returned (.bool false) ∧ Below W.heap.size W w')) (w : World) :
    Calls Tryz.prog 66 #[.string s] w fun e w' => e = .returned (.tuple #[.int .u8 0, .int .i64 0, .int .i64 12]) ∧ Below w.heap.size w w' := by
  go_enter Tryz.func66, Tryz.ntmps66
  go_wp2_with (go_at_call 49; refine (unhide HC _).mono ?_; rintro e1 w1 ⟨rfl, rfl⟩)
  refine (unhide HS _).mono ?_
  rintro e2 w2 ⟨rfl, rfl⟩
  go_wp2_with fail
  refine (unhide HW _).mono ?_
  rintro e3 w3 ⟨rfl, hb⟩
  go_wp2_with fail
  go_ret3
  exact ⟨rfl, hb⟩
set_option maxRecDepth 100000 in
set_option maxHeartbeats 1000000 in
theorem f3nA (s : ByteArray) (hs : s.size ≤ 20000) (h0 : 0 < s.size) (h1 : (1 : Int) < s.size) (C : Int) (HC : Hid (∀ W : World, Calls Tryz.prog 49 #[.int .u8 (s[0].toNat : Int)] W fun e w' => e = .returned (.int .u8 C) ∧ W = w')) (e98 : (C == 98) = false) (t1 : ((s.extract 0 2).toList == [40, 42]) = false) (t2 : ((s.extract 0 2).toList == [60, 42]) = false) (e97 : (C == 97) = true) (n : Nat) (hn : n ≤ s.size) (h12 : ¬ (12 : Int) < n) (HS : Hid (∀ W : World, Calls Tryz.prog 50 #[.string s, .int .u8 97, .int .u8 100] W fun e w' => e = .returned (.int .i64 (n : Int)) ∧ W = w')) (HW : Hid (∀ W : World, Calls Tryz.prog 22 #[.string (s.extract 0 n)] W fun e w' => e = .returned (.bool false) ∧ Below W.heap.size W w')) (w : World) :
    Calls Tryz.prog 66 #[.string s] w fun e w' => e = .returned (.tuple #[.int .u8 1, .int .i64 n, .int .i64 0]) ∧ Below w.heap.size w w' := by
  go_enter Tryz.func66, Tryz.ntmps66
  go_wp2_with (go_at_call 49; refine (unhide HC _).mono ?_; rintro e1 w1 ⟨rfl, rfl⟩)
  refine (unhide HS _).mono ?_
  rintro e2 w2 ⟨rfl, rfl⟩
  go_wp2_with fail
  refine (unhide HW _).mono ?_
  rintro e3 w3 ⟨rfl, hb⟩
  go_wp2_with fail
  go_ret3
  exact ⟨rfl, hb⟩
set_option maxRecDepth 100000 in
set_option maxHeartbeats 1000000 in
theorem f4eA (s : ByteArray) (hs : s.size ≤ 20000) (h0 : 0 < s.size) (h1 : (1 : Int) < s.size) (C : Int) (HC : Hid (∀ W : World, Calls Tryz.prog 49 #[.int .u8 (s[0].toNat : Int)] W fun e w' => e = .returned (.int .u8 C) ∧ W = w')) (e98 : (C == 98) = false) (t1 : ((s.extract 0 2).toList == [40, 42]) = false) (t2 : ((s.extract 0 2).toList == [60, 42]) = false) (e97 : (C == 97) = false) (e100 : (C == 100) = true) (m : Nat) (hm0 : m ≤ s.size) (hm : ¬ (m : Int) < s.size) (x y : Int) (HS : Hid (∀ W : World, Calls Tryz.prog 50 #[.string s, .int .u8 100, .int .u8 100] W fun e w' => e = .returned (.int .i64 (m : Int)) ∧ W = w')) (HV : Hid (∀ W : World, Calls Tryz.prog 26 #[.string (s.extract 0 m)] W fun e w' => e = .returned (.tuple #[.int .i64 x, .int .i64 y]) ∧ ∃ n, w' = W.drewN n)) (w : World) :
    Calls Tryz.prog 66 #[.string s] w fun e w' => e = .returned (.tuple #[.int .u8 3, .int .i64 m, .int .i64 y]) ∧ Below w.heap.size w w' := by

  go_enter Tryz.func66, Tryz.ntmps66
  go_wp2_with (go_at_call 49; refine (unhide HC _).mono ?_; rintro e1 w1 ⟨rfl, rfl⟩)
  refine (unhide HS _).mono ?_
  rintro e2 w2 ⟨rfl, rfl⟩
  go_wp2_with fail
  refine (unhide HV _).mono ?_
  rintro e3 w3 ⟨rfl, n3, rfl⟩
  go_wp2_with fail
  go_ret3
  exact ⟨rfl, below_drewN' (Below.refl _ _) _⟩
set_option maxRecDepth 100000 in
set_option maxHeartbeats 1000000 in
theorem f4oA (s : ByteArray) (hs : s.size ≤ 20000) (h0 : 0 < s.size) (h1 : (1 : Int) < s.size) (C : Int) (HC : Hid (∀ W : World, Calls Tryz.prog 49 #[.int .u8 (s[0].toNat : Int)] W fun e w' => e = .returned (.int .u8 C) ∧ W = w')) (e98 : (C == 98) = false) (t1 : ((s.extract 0 2).toList == [40, 42]) = false) (t2 : ((s.extract 0 2).toList == [60, 42]) = false) (e97 : (C == 97) = false) (e100 : (C == 100) = true) (m : Nat) (hm0 : m ≤ s.size) (hm : m < s.size) (h95 : ((s[m].toNat : Int) == 95) = false) (x y : Int) (HS : Hid (∀ W : World, Calls Tryz.prog 50 #[.string s, .int .u8 100, .int .u8 100] W fun e w' => e = .returned (.int .i64 (m : Int)) ∧ W = w')) (HV : Hid (∀ W : World, Calls Tryz.prog 26 #[.string (s.extract 0 m)] W fun e w' => e = .returned (.tuple #[.int .i64 x, .int .i64 y]) ∧ ∃ n, w' = W.drewN n)) (w : World) :
    Calls Tryz.prog 66 #[.string s] w fun e w' => e = .returned (.tuple #[.int .u8 3, .int .i64 m, .int .i64 y]) ∧ Below w.heap.size w w' := by
  have hmi : (m : Int) < s.size := by omega
  go_enter Tryz.func66, Tryz.ntmps66
  go_wp2_with (go_at_call 49; refine (unhide HC _).mono ?_; rintro e1 w1 ⟨rfl, rfl⟩)
  refine (unhide HS _).mono ?_
  rintro e2 w2 ⟨rfl, rfl⟩
  go_wp2_with fail
  refine (unhide HV _).mono ?_
  rintro e3 w3 ⟨rfl, n3, rfl⟩
  go_wp2_with fail
  go_ret3
  exact ⟨rfl, below_drewN' (Below.refl _ _) _⟩
set_option maxRecDepth 100000 in
set_option maxHeartbeats 1000000 in
theorem f4uA (s : ByteArray) (hs : s.size ≤ 20000) (h0 : 0 < s.size) (h1 : (1 : Int) < s.size) (C : Int) (HC : Hid (∀ W : World, Calls Tryz.prog 49 #[.int .u8 (s[0].toNat : Int)] W fun e w' => e = .returned (.int .u8 C) ∧ W = w')) (e98 : (C == 98) = false) (t1 : ((s.extract 0 2).toList == [40, 42]) = false) (t2 : ((s.extract 0 2).toList == [60, 42]) = false) (e97 : (C == 97) = false) (e100 : (C == 100) = true) (m k : Nat) (hm : m < s.size) (h95 : ((s[m].toNat : Int) == 95) = true) (hk : m + 1 + k ≤ s.size) (x y : Int) (HS : Hid (∀ W : World, Calls Tryz.prog 50 #[.string s, .int .u8 100, .int .u8 100] W fun e w' => e = .returned (.int .i64 (m : Int)) ∧ W = w')) (HS2 : Hid (∀ W : World, Calls Tryz.prog 50 #[.string (s.extract (m + 1) s.size), .int .u8 97, .int .u8 100] W fun e w' => e = .returned (.int .i64 (k : Int)) ∧ W = w')) (HV : Hid (∀ W : World, Calls Tryz.prog 26 #[.string (s.extract 0 (m + 1 + k))] W fun e w' => e = .returned (.tuple #[.int .i64 x, .int .i64 y]) ∧ ∃ n, w' = W.drewN n)) (w : World) :
    Calls Tryz.prog 66 #[.string s] w fun e w' => e = .returned (.tuple #[.int .u8 3, .int .i64 (m + 1 + k : Nat), .int .i64 y]) ∧ Below w.heap.size w w' := by
  have hmi : (m : Int) < s.size := by omega
  go_enter Tryz.func66, Tryz.ntmps66
  go_wp2_with (go_at_call 49; refine (unhide HC _).mono ?_; rintro e1 w1 ⟨rfl, rfl⟩)
  refine (unhide HS _).mono ?_
  rintro e2 w2 ⟨rfl, rfl⟩
  go_wp2_with fail
  refine (unhide HS2 _).mono ?_
  rintro e3 w3 ⟨rfl, rfl⟩
  go_wp2_with fail
  refine (unhide HV _).mono ?_
  rintro e3 w3 ⟨rfl, n3, rfl⟩
  go_wp2_with fail
  go_ret3
  exact ⟨rfl, below_drewN' (Below.refl _ _) _⟩
set_option maxRecDepth 100000 in
set_option maxHeartbeats 1000000 in
theorem f5noA (s : ByteArray) (hs : s.size ≤ 20000) (h0 : 0 < s.size) (h1 : (1 : Int) < s.size) (C : Int) (HC : Hid (∀ W : World, Calls Tryz.prog 49 #[.int .u8 (s[0].toNat : Int)] W fun e w' => e = .returned (.int .u8 C) ∧ W = w')) (e98 : (C == 98) = false) (t1 : ((s.extract 0 2).toList == [40, 42]) = false) (t2 : ((s.extract 0 2).toList == [60, 42]) = false) (e97 : (C == 97) = false) (e100 : (C == 100) = false) (e34 : ((s[0].toNat : Int) == 34) = true) (HS : Hid (∀ W : World, Calls Tryz.prog 88 #[.string s, .int .i64 1, .string ⟨#[34]⟩] W fun e w' => e = .returned (.int .i64 0) ∧ W = w')) (w : World) :
    Calls Tryz.prog 66 #[.string s] w fun e w' => e = .returned (.tuple #[.int .u8 0, .int .i64 0, .int .i64 14]) ∧ Below w.heap.size w w' := by
  go_enter Tryz.func66, Tryz.ntmps66
  go_wp2_with (go_at_call 49; refine (unhide HC _).mono ?_; rintro e1 w1 ⟨rfl, rfl⟩)
  refine (unhide HS _).mono ?_
  rintro e2 w2 ⟨rfl, rfl⟩
  go_wp2_with fail
  go_ret3
  exact ⟨rfl, Below.refl _ _⟩
set_option maxRecDepth 100000 in
set_option maxHeartbeats 1000000 in
theorem f5badA (s : ByteArray) (hs : s.size ≤ 20000) (h0 : 0 < s.size) (h1 : (1 : Int) < s.size) (C : Int) (HC : Hid (∀ W : World, Calls Tryz.prog 49 #[.int .u8 (s[0].toNat : Int)] W fun e w' => e = .returned (.int .u8 C) ∧ W = w')) (e98 : (C == 98) = false) (t1 : ((s.extract 0 2).toList == [40, 42]) = false) (t2 : ((s.extract 0 2).toList == [60, 42]) = false) (e97 : (C == 97) = false) (e100 : (C == 100) = false) (e34 : ((s[0].toNat : Int) == 34) = true) (n : Nat) (hn : n + 2 ≤ s.size) (HS : Hid (∀ W : World, Calls Tryz.prog 88 #[.string s, .int .i64 1, .string ⟨#[34]⟩] W fun e w' => e = .returned (.int .i64 (n + 2 : Nat)) ∧ W = w')) (HB : Hid (∀ W : World, Calls Tryz.prog 24 #[.string (s.extract 1 (n + 1))] W fun e w' => e = .returned (.bool false) ∧ W = w')) (w : World) :
    Calls Tryz.prog 66 #[.string s] w fun e w' => e = .returned (.tuple #[.int .u8 0, .int .i64 0, .int .i64 14]) ∧ Below w.heap.size w w' := by
  have hn0 : (((n + 2 : Nat) : Int) == 0) = false := by simp; omega
  go_enter Tryz.func66, Tryz.ntmps66
  go_wp2_with (go_at_call 49; refine (unhide HC _).mono ?_; rintro e1 w1 ⟨rfl, rfl⟩)
  refine (unhide HS _).mono ?_
  rintro e2 w2 ⟨rfl, rfl⟩
  go_wp2_with fail
  refine (unhide HB _).mono ?_
  rintro e3 w3 ⟨rfl, rfl⟩
  go_wp2_with fail
  go_ret3
  exact ⟨rfl, Below.refl _ _⟩
set_option maxRecDepth 100000 in
set_option maxHeartbeats 1000000 in
theorem f5okA (s : ByteArray) (hs : s.size ≤ 20000) (h0 : 0 < s.size) (h1 : (1 : Int) < s.size) (C : Int) (HC : Hid (∀ W : World, Calls Tryz.prog 49 #[.int .u8 (s[0].toNat : Int)] W fun e w' => e = .returned (.int .u8 C) ∧ W = w')) (e98 : (C == 98) = false) (t1 : ((s.extract 0 2).toList == [40, 42]) = false) (t2 : ((s.extract 0 2).toList == [60, 42]) = false) (e97 : (C == 97) = false) (e100 : (C == 100) = false) (e34 : ((s[0].toNat : Int) == 34) = true) (n : Nat) (hn : n + 2 ≤ s.size) (HS : Hid (∀ W : World, Calls Tryz.prog 88 #[.string s, .int .i64 1, .string ⟨#[34]⟩] W fun e w' => e = .returned (.int .i64 (n + 2 : Nat)) ∧ W = w')) (HB : Hid (∀ W : World, Calls Tryz.prog 24 #[.string (s.extract 1 (n + 1))] W fun e w' => e = .returned (.bool true) ∧ W = w')) (w : World) :
    Calls Tryz.prog 66 #[.string s] w fun e w' => e = .returned (.tuple #[.int .u8 4, .int .i64 (n + 2 : Nat), .int .i64 0]) ∧ Below w.heap.size w w' := by
  have hn0 : (((n + 2 : Nat) : Int) == 0) = false := by simp; omega
  go_enter Tryz.func66, Tryz.ntmps66
  go_wp2_with (go_at_call 49; refine (unhide HC _).mono ?_; rintro e1 w1 ⟨rfl, rfl⟩)
  refine (unhide HS _).mono ?_
  rintro e2 w2 ⟨rfl, rfl⟩
  go_wp2_with fail
  refine (unhide HB _).mono ?_
  rintro e3 w3 ⟨rfl, rfl⟩
  go_wp2_with fail
  go_ret3
  exact ⟨rfl, Below.refl _ _⟩
set_option maxRecDepth 100000 in
set_option maxHeartbeats 1000000 in
theorem f6twoA (s : ByteArray) (hs : s.size ≤ 20000) (h0 : 0 < s.size) (h1 : (1 : Int) < s.size) (C : Int) (HC : Hid (∀ W : World, Calls Tryz.prog 49 #[.int .u8 (s[0].toNat : Int)] W fun e w' => e = .returned (.int .u8 C) ∧ W = w')) (e98 : (C == 98) = false) (t1 : ((s.extract 0 2).toList == [40, 42]) = false) (t2 : ((s.extract 0 2).toList == [60, 42]) = false) (e97 : (C == 97) = false) (e100 : (C == 100) = false) (e34 : ((s[0].toNat : Int) == 34) = false) (HG : Hid (∀ W : World, Calls Tryz.prog 18 #[] W fun e w' => e = .returned (.slice (some ⟨W.heap.size, 0, none⟩) 23 23) ∧ w' = W.alloc (.cells (signsL.map mkV).toArray 9))) (HA : Hid (∀ (W : World) (N : Nat), Blk W N (signsL.map mkV) 9 → Calls Tryz.prog 53 #[.string (s.extract 0 2), .slice (some ⟨N, 0, none⟩) 23 23] W fun e w' => e = .returned (.bool true) ∧ W = w')) (w : World) :
    Calls Tryz.prog 66 #[.string s] w fun e w' => e = .returned (.tuple #[.int .u8 5, .int .i64 2, .int .i64 0]) ∧ Below w.heap.size w w' := by
  go_enter Tryz.func66, Tryz.ntmps66
  go_wp2_with (go_at_call 49; refine (unhide HC _).mono ?_; rintro e1 w1 ⟨rfl, rfl⟩)
  refine (unhide HG _).mono ?_
  rintro e2 w2 ⟨rfl, hw2⟩
  have hB : Blk w2 w.heap.size (signsL.map mkV) 9 := by rw [hw2]; exact Blk.new _ _ _
  have hb : Below w.heap.size w w2 := by rw [hw2]; exact (Below.refl _ _).alloc (Nat.le_refl _) _
  clear hw2
  go_wp2_with fail
  refine (unhide HA _ _ hB).mono ?_
  rintro e3 w3 ⟨rfl, rfl⟩
  go_wp2_with fail
  go_ret3
  exact ⟨rfl, hb⟩
set_option maxRecDepth 100000 in
set_option maxHeartbeats 1000000 in
theorem f0B (s : ByteArray) (_hs : s.size ≤ 20000) (h0 : 0 < s.size) (h1 : s.size = 1) (C : Int) (HC : Hid (∀ W : World, Calls Tryz.prog 49 #[.int .u8 (s[0].toNat : Int)] W fun e w' => e = .returned (.int .u8 C) ∧ W = w')) (e98 : (C == 98) = true) (n : Nat) (HS : Hid (∀ W : World, Calls Tryz.prog 50 #[.string s, .int .u8 98, .int .u8 98] W fun e w' => e = .returned (.int .i64 (n : Int)) ∧ W = w')) (w : World) :
    Calls Tryz.prog 66 #[.string s] w fun e w' => e = .returned (.tuple #[.int .u8 6, .int .i64 n, .int .i64 0]) ∧ Below w.heap.size w w' := by
  have h1i : ¬ (1 : Int) < s.size := by omega
  go_enter Tryz.func66, Tryz.ntmps66
  go_wp2_with (go_at_call 49; refine (unhide HC _).mono ?_; rintro e1 w1 ⟨rfl, rfl⟩)
  refine (unhide HS _).mono ?_
  rintro e2 w2 ⟨rfl, rfl⟩
  go_wp2_with fail
  go_ret3
  exact ⟨rfl, Below.refl _ _⟩
set_option maxRecDepth 100000 in
set_option maxHeartbeats 1000000 in
theorem f3wB (s : ByteArray) (_hs : s.size ≤ 20000) (h0 : 0 < s.size) (h1 : s.size = 1) (C : Int) (HC : Hid (∀ W : World, Calls Tryz.prog 49 #[.int .u8 (s[0].toNat : Int)] W fun e w' => e = .returned (.int .u8 C) ∧ W = w')) (e98 : (C == 98) = false) (e97 : (C == 97) = true) (n : Nat) (hn : n ≤ s.size) (HS : Hid (∀ W : World, Calls Tryz.prog 50 #[.string s, .int .u8 97, .int .u8 100] W fun e w' => e = .returned (.int .i64 (n : Int)) ∧ W = w')) (HW : Hid (∀ W : World, Calls Tryz.prog 22 #[.string (s.extract 0 n)] W fun e w' => e = .returned (.bool true) ∧ Below W.heap.size W w')) (w : World) :
    Calls Tryz.prog 66 #[.string s] w fun e w' => e = .returned (.tuple #[.int .u8 2, .int .i64 n, .int .i64 0]) ∧ Below w.heap.size w w' := by
  have h1i : ¬ (1 : Int) < s.size := by omega
  go_enter Tryz.func66, Tryz.ntmps66
  go_wp2_with (go_at_call 49; refine (unhide HC _).mono ?_; rintro e1 w1 ⟨rfl, rfl⟩)
  refine (unhide HS _).mono ?_
  rintro e2 w2 ⟨rfl, rfl⟩
  go_wp2_with fail
  refine (unhide HW _).mono ?_
  rintro e3 w3 ⟨rfl, hb⟩
  go_wp2_with fail
  go_ret3
  exact ⟨rfl, hb⟩
set_option maxRecDepth 100000 in
set_option maxHeartbeats 1000000 in
theorem f3nB (s : ByteArray) (_hs : s.size ≤ 20000) (h0 : 0 < s.size) (h1 : s.size = 1) (C : Int) (HC : Hid (∀ W : World, Calls Tryz.prog 49 #[.int .u8 (s[0].toNat : Int)] W fun e w' => e = .returned (.int .u8 C) ∧ W = w')) (e98 : (C == 98) = false) (e97 : (C == 97) = true) (n : Nat) (hn : n ≤ s.size) (_h12 : ¬ (12 : Int) < n) (HS : Hid (∀ W : World, Calls Tryz.prog 50 #[.string s, .int .u8 97, .int .u8 100] W fun e w' => e = .returned (.int .i64 (n : Int)) ∧ W = w')) (HW : Hid (∀ W : World, Calls Tryz.prog 22 #[.string (s.extract 0 n)] W fun e w' => e = .returned (.bool false) ∧ Below W.heap.size W w')) (w : World) :
    Calls Tryz.prog 66 #[.string s] w fun e w' => e = .returned (.tuple #[.int .u8 1, .int .i64 n, .int .i64 0]) ∧ Below w.heap.size w w' := by
  have h1i : ¬ (1 : Int) < s.size := by omega
  go_enter Tryz.func66, Tryz.ntmps66
  go_wp2_with (go_at_call 49; refine (unhide HC _).mono ?_; rintro e1 w1 ⟨rfl, rfl⟩)
  refine (unhide HS _).mono ?_
  rintro e2 w2 ⟨rfl, rfl⟩
  go_wp2_with fail
  refine (unhide HW _).mono ?_
  rintro e3 w3 ⟨rfl, hb⟩
  go_wp2_with fail
  go_ret3
  exact ⟨rfl, hb⟩
set_option maxRecDepth 100000 in
set_option maxHeartbeats 1000000 in
theorem f4eB (s : ByteArray) (_hs : s.size ≤ 20000) (h0 : 0 < s.size) (h1 : s.size = 1) (C : Int) (HC : Hid (∀ W : World, Calls Tryz.prog 49 #[.int .u8 (s[0].toNat : Int)] W fun e w' => e = .returned (.int .u8 C) ∧ W = w')) (e98 : (C == 98) = false) (e97 : (C == 97) = false) (e100 : (C == 100) = true) (m : Nat) (hm0 : m ≤ s.size) (hm : ¬ (m : Int) < s.size) (x y : Int) (HS : Hid (∀ W : World, Calls Tryz.prog 50 #[.string s, .int .u8 100, .int .u8 100] W fun e w' => e = .returned (.int .i64 (m : Int)) ∧ W = w')) (HV : Hid (∀ W : World, Calls Tryz.prog 26 #[.string (s.extract 0 m)] W fun e w' => e = .returned (.tuple #[.int .i64 x, .int .i64 y]) ∧ ∃ n, w' = W.drewN n)) (w : World) :
    Calls Tryz.prog 66 #[.string s] w fun e w' => e = .returned (.tuple #[.int .u8 3, .int .i64 m, .int .i64 y]) ∧ Below w.heap.size w w' := by

  have h1i : ¬ (1 : Int) < s.size := by omega
  go_enter Tryz.func66, Tryz.ntmps66
  go_wp2_with (go_at_call 49; refine (unhide HC _).mono ?_; rintro e1 w1 ⟨rfl, rfl⟩)
  refine (unhide HS _).mono ?_
  rintro e2 w2 ⟨rfl, rfl⟩
  go_wp2_with fail
  refine (unhide HV _).mono ?_
  rintro e3 w3 ⟨rfl, n3, rfl⟩
  go_wp2_with fail
  go_ret3
  exact ⟨rfl, below_drewN' (Below.refl _ _) _⟩
set_option maxRecDepth 100000 in
set_option maxHeartbeats 1000000 in
theorem f5noB (s : ByteArray) (_hs : s.size ≤ 20000) (h0 : 0 < s.size) (h1 : s.size = 1) (C : Int) (HC : Hid (∀ W : World, Calls Tryz.prog 49 #[.int .u8 (s[0].toNat : Int)] W fun e w' => e = .returned (.int .u8 C) ∧ W = w')) (e98 : (C == 98) = false) (e97 : (C == 97) = false) (e100 : (C == 100) = false) (e34 : ((s[0].toNat : Int) == 34) = true) (HS : Hid (∀ W : World, Calls Tryz.prog 88 #[.string s, .int .i64 1, .string ⟨#[34]⟩] W fun e w' => e = .returned (.int .i64 0) ∧ W = w')) (w : World) :
    Calls Tryz.prog 66 #[.string s] w fun e w' => e = .returned (.tuple #[.int .u8 0, .int .i64 0, .int .i64 14]) ∧ Below w.heap.size w w' := by
  have h1i : ¬ (1 : Int) < s.size := by omega
  go_enter Tryz.func66, Tryz.ntmps66
  go_wp2_with (go_at_call 49; refine (unhide HC _).mono ?_; rintro e1 w1 ⟨rfl, rfl⟩)
  refine (unhide HS _).mono ?_
  rintro e2 w2 ⟨rfl, rfl⟩
  go_wp2_with fail
  go_ret3
  exact ⟨rfl, Below.refl _ _⟩
set_option maxRecDepth 100000 in
set_option maxHeartbeats 1000000 in
theorem f6oneA (s : ByteArray) (_hs : s.size ≤ 20000) (h0 : 0 < s.size) (h1 : (1 : Int) < s.size) (C : Int) (HC : Hid (∀ W : World, Calls Tryz.prog 49 #[.int .u8 (s[0].toNat : Int)] W fun e w' => e = .returned (.int .u8 C) ∧ W = w')) (e98 : (C == 98) = false) (t1 : ((s.extract 0 2).toList == [40, 42]) = false) (t2 : ((s.extract 0 2).toList == [60, 42]) = false) (e97 : (C == 97) = false) (e100 : (C == 100) = false) (e34 : ((s[0].toNat : Int) == 34) = false) (HG : Hid (∀ W : World, Calls Tryz.prog 18 #[] W fun e w' => e = .returned (.slice (some ⟨W.heap.size, 0, none⟩) 23 23) ∧ w' = W.alloc (.cells (signsL.map mkV).toArray 9))) (HA : Hid (∀ (W : World) (N : Nat), Blk W N (signsL.map mkV) 9 → Calls Tryz.prog 53 #[.string (s.extract 0 2), .slice (some ⟨N, 0, none⟩) 23 23] W fun e w' => e = .returned (.bool false) ∧ W = w')) (HA1 : Hid (∀ (W : World) (N : Nat), Blk W N (signsL.map mkV) 9 → Calls Tryz.prog 53 #[.string (s.extract 0 1), .slice (some ⟨N, 0, none⟩) 23 23] W fun e w' => e = .returned (.bool true) ∧ W = w')) (w : World) :
    Calls Tryz.prog 66 #[.string s] w fun e w' => e = .returned (.tuple #[.int .u8 5, .int .i64 1, .int .i64 0]) ∧ Below w.heap.size w w' := by
  have hs1 : (1 : Int) ≤ s.size := by omega
  go_enter Tryz.func66, Tryz.ntmps66
  go_wp2_with (go_at_call 49; refine (unhide HC _).mono ?_; rintro e1 w1 ⟨rfl, rfl⟩)
  refine (unhide HG _).mono ?_
  rintro e2 w2 ⟨rfl, hw2⟩
  have hB : Blk w2 w.heap.size (signsL.map mkV) 9 := by rw [hw2]; exact Blk.new _ _ _
  have hb : Below w.heap.size w w2 := by rw [hw2]; exact (Below.refl _ _).alloc (Nat.le_refl _) _
  clear hw2
  go_wp2_with fail
  refine (unhide HA _ _ hB).mono ?_
  rintro e3 w3 ⟨rfl, rfl⟩
  clear HA hB
  go_wp2
  go_region_with (first | (go_at_call 18; refine (unhide HG _).mono ?_; rintro e4 w4 ⟨rfl, rfl⟩) | (go_at_call 53; refine (unhide HA1 _ _ ((Blk.new w2 (signsL.map mkV) 9).drew)).mono ?_; rintro e5 w5 ⟨rfl, rfl⟩))
  all_goals
    go_wp2
    go_ret3
    exact ⟨rfl, (hb.alloc hb.size _).drew⟩
set_option maxRecDepth 100000 in
set_option maxHeartbeats 1000000 in
theorem f6noneA (s : ByteArray) (_hs : s.size ≤ 20000) (h0 : 0 < s.size) (h1 : (1 : Int) < s.size) (C : Int) (HC : Hid (∀ W : World, Calls Tryz.prog 49 #[.int .u8 (s[0].toNat : Int)] W fun e w' => e = .returned (.int .u8 C) ∧ W = w')) (e98 : (C == 98) = false) (t1 : ((s.extract 0 2).toList == [40, 42]) = false) (t2 : ((s.extract 0 2).toList == [60, 42]) = false) (e97 : (C == 97) = false) (e100 : (C == 100) = false) (e34 : ((s[0].toNat : Int) == 34) = false) (HG : Hid (∀ W : World, Calls Tryz.prog 18 #[] W fun e w' => e = .returned (.slice (some ⟨W.heap.size, 0, none⟩) 23 23) ∧ w' = W.alloc (.cells (signsL.map mkV).toArray 9))) (HA : Hid (∀ (W : World) (N : Nat), Blk W N (signsL.map mkV) 9 → Calls Tryz.prog 53 #[.string (s.extract 0 2), .slice (some ⟨N, 0, none⟩) 23 23] W fun e w' => e = .returned (.bool false) ∧ W = w')) (HA1 : Hid (∀ (W : World) (N : Nat), Blk W N (signsL.map mkV) 9 → Calls Tryz.prog 53 #[.string (s.extract 0 1), .slice (some ⟨N, 0, none⟩) 23 23] W fun e w' => e = .returned (.bool false) ∧ W = w')) (w : World) :
    Calls Tryz.prog 66 #[.string s] w fun e w' => e = .returned (.tuple #[.int .u8 0, .int .i64 0, .int .i64 10]) ∧ Below w.heap.size w w' := by
  have hs1 : (1 : Int) ≤ s.size := by omega
  go_enter Tryz.func66, Tryz.ntmps66
  go_wp2_with (go_at_call 49; refine (unhide HC _).mono ?_; rintro e1 w1 ⟨rfl, rfl⟩)
  refine (unhide HG _).mono ?_
  rintro e2 w2 ⟨rfl, hw2⟩
  have hB : Blk w2 w.heap.size (signsL.map mkV) 9 := by rw [hw2]; exact Blk.new _ _ _
  have hb : Below w.heap.size w w2 := by rw [hw2]; exact (Below.refl _ _).alloc (Nat.le_refl _) _
  clear hw2
  go_wp2_with fail
  refine (unhide HA _ _ hB).mono ?_
  rintro e3 w3 ⟨rfl, rfl⟩
  clear HA hB
  go_wp2
  go_region_with (first | (go_at_call 18; refine (unhide HG _).mono ?_; rintro e4 w4 ⟨rfl, rfl⟩) | (go_at_call 53; refine (unhide HA1 _ _ ((Blk.new w2 (signsL.map mkV) 9).drew)).mono ?_; rintro e5 w5 ⟨rfl, rfl⟩))
  all_goals
    go_wp2
    go_ret3
    exact ⟨rfl, (hb.alloc hb.size _).drew⟩
set_option maxRecDepth 100000 in
set_option maxHeartbeats 1000000 in
theorem f6oneB (s : ByteArray) (_hs : s.size ≤ 20000) (h0 : 0 < s.size) (h1 : s.size = 1) (C : Int) (HC : Hid (∀ W : World, Calls Tryz.prog 49 #[.int .u8 (s[0].toNat : Int)] W fun e w' => e = .returned (.int .u8 C) ∧ W = w')) (e98 : (C == 98) = false) (e97 : (C == 97) = false) (e100 : (C == 100) = false) (e34 : ((s[0].toNat : Int) == 34) = false) (HG : Hid (∀ W : World, Calls Tryz.prog 18 #[] W fun e w' => e = .returned (.slice (some ⟨W.heap.size, 0, none⟩) 23 23) ∧ w' = W.alloc (.cells (signsL.map mkV).toArray 9))) (HA : Hid (∀ (W : World) (N : Nat), Blk W N (signsL.map mkV) 9 → Calls Tryz.prog 53 #[.string (⟨#[]⟩ : ByteArray), .slice (some ⟨N, 0, none⟩) 23 23] W fun e w' => e = .returned (.bool false) ∧ W = w')) (HA1 : Hid (∀ (W : World) (N : Nat), Blk W N (signsL.map mkV) 9 → Calls Tryz.prog 53 #[.string (s.extract 0 1), .slice (some ⟨N, 0, none⟩) 23 23] W fun e w' => e = .returned (.bool true) ∧ W = w')) (w : World) :
    Calls Tryz.prog 66 #[.string s] w fun e w' => e = .returned (.tuple #[.int .u8 5, .int .i64 1, .int .i64 0]) ∧ Below w.heap.size w w' := by
  have h1i : ¬ (1 : Int) < s.size := by omega
  have hs1 : (1 : Int) ≤ s.size := by omega
  go_enter Tryz.func66, Tryz.ntmps66
  go_wp2_with (go_at_call 49; refine (unhide HC _).mono ?_; rintro e1 w1 ⟨rfl, rfl⟩)
  refine (unhide HG _).mono ?_
  rintro e2 w2 ⟨rfl, hw2⟩
  have hB : Blk w2 w.heap.size (signsL.map mkV) 9 := by rw [hw2]; exact Blk.new _ _ _
  have hb : Below w.heap.size w w2 := by rw [hw2]; exact (Below.refl _ _).alloc (Nat.le_refl _) _
  clear hw2
  go_wp2_with fail
  refine (unhide HA _ _ hB).mono ?_
  rintro e3 w3 ⟨rfl, rfl⟩
  clear HA hB
  go_wp2
  go_region_with (first | (go_at_call 18; refine (unhide HG _).mono ?_; rintro e4 w4 ⟨rfl, rfl⟩) | (go_at_call 53; refine (unhide HA1 _ _ ((Blk.new w2 (signsL.map mkV) 9).drew)).mono ?_; rintro e5 w5 ⟨rfl, rfl⟩))
  all_goals
    go_wp2
    go_ret3
    exact ⟨rfl, (hb.alloc hb.size _).drew⟩
set_option maxRecDepth 100000 in
set_option maxHeartbeats 1000000 in
theorem f6noneB (s : ByteArray) (_hs : s.size ≤ 20000) (h0 : 0 < s.size) (h1 : s.size = 1) (C : Int) (HC : Hid (∀ W : World, Calls Tryz.prog 49 #[.int .u8 (s[0].toNat : Int)] W fun e w' => e = .returned (.int .u8 C) ∧ W = w')) (e98 : (C == 98) = false) (e97 : (C == 97) = false) (e100 : (C == 100) = false) (e34 : ((s[0].toNat : Int) == 34) = false) (HG : Hid (∀ W : World, Calls Tryz.prog 18 #[] W fun e w' => e = .returned (.slice (some ⟨W.heap.size, 0, none⟩) 23 23) ∧ w' = W.alloc (.cells (signsL.map mkV).toArray 9))) (HA : Hid (∀ (W : World) (N : Nat), Blk W N (signsL.map mkV) 9 → Calls Tryz.prog 53 #[.string (⟨#[]⟩ : ByteArray), .slice (some ⟨N, 0, none⟩) 23 23] W fun e w' => e = .returned (.bool false) ∧ W = w')) (HA1 : Hid (∀ (W : World) (N : Nat), Blk W N (signsL.map mkV) 9 → Calls Tryz.prog 53 #[.string (s.extract 0 1), .slice (some ⟨N, 0, none⟩) 23 23] W fun e w' => e = .returned (.bool false) ∧ W = w')) (w : World) :
    Calls Tryz.prog 66 #[.string s] w fun e w' => e = .returned (.tuple #[.int .u8 0, .int .i64 0, .int .i64 10]) ∧ Below w.heap.size w w' := by
  have h1i : ¬ (1 : Int) < s.size := by omega
  have hs1 : (1 : Int) ≤ s.size := by omega
  go_enter Tryz.func66, Tryz.ntmps66
  go_wp2_with (go_at_call 49; refine (unhide HC _).mono ?_; rintro e1 w1 ⟨rfl, rfl⟩)
  refine (unhide HG _).mono ?_
  rintro e2 w2 ⟨rfl, hw2⟩
  have hB : Blk w2 w.heap.size (signsL.map mkV) 9 := by rw [hw2]; exact Blk.new _ _ _
  have hb : Below w.heap.size w w2 := by rw [hw2]; exact (Below.refl _ _).alloc (Nat.le_refl _) _
  clear hw2
  go_wp2_with fail
  refine (unhide HA _ _ hB).mono ?_
  rintro e3 w3 ⟨rfl, rfl⟩
  clear HA hB
  go_wp2
  go_region_with (first | (go_at_call 18; refine (unhide HG _).mono ?_; rintro e4 w4 ⟨rfl, rfl⟩) | (go_at_call 53; refine (unhide HA1 _ _ ((Blk.new w2 (signsL.map mkV) 9).drew)).mono ?_; rintro e5 w5 ⟨rfl, rfl⟩))
  all_goals
    go_wp2
    go_ret3
    exact ⟨rfl, (hb.alloc hb.size _).drew⟩
end Go.Proofs.YteknngncnbfbnaaGreatDoor
