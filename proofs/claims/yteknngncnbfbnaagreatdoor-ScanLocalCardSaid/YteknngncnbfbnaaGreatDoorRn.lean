/- The reference's Value and Digits, walked. -/
import Derived.Test.YteknngncnbfbnaaGreatDoorMa
import Derived.Test.YteknngncnbfbnaaGreatDoorRh
import Derived.RangeFuncNested
import Derived.RangeFuncBound
import Derived.RangeFuncCalls
import Derived.RangeFuncLeaves
import Derived.RangeFuncBox
import Derived.Shelf.Abstract
import Derived.WalkKit
import Derived.OwnWalkIn
import Derived.TacticsInMore
import Derived.LoopNIn
import Derived.LoopIn
import Derived.RecoverIn
import Derived.Maps.AppendAt
import Derived.Outline
import Derived.Handy
import Derived.Deep.LoopGhost
import Derived.RegionTactic
import Derived.ChangeAlike
import Derived.Deep.QuietTactic
import Derived.BigQuiet
import Derived.StillTailTactics
import Derived.Deep.RegionWith
import Derived.LoopTactic
import Derived.OwnWalk
import Derived.Deep.AppendLies
import Derived.Deep.DeepCutAuto
import Derived.KernelRfl
namespace Go.Proofs.YteknngncnbfbnaaGreatDoor
open Go Go.RowKit Go.Shelf
/-- A value that may be none, as the reference says it. -/
def negN : Option Nat → Int | none => -1 | some n => n
theorem hexStr_fin : ∀ d : Fin 16, hexStr[d.val]'(Nat.lt_of_lt_of_le d.isLt (by decide)) = dgU d.val := by decide
theorem hexStr_at (d : Nat) (h : d < 16) (h' : d < hexStr.size) : hexStr[d] = dgU d := hexStr_fin ⟨d, h⟩
theorem digI_step_all : ((List.range 16).all fun j => (List.range 256).all fun c => decide (digI (j + 1) (UInt8.ofNat c) = if dgU j = UInt8.ofNat c then (j : Int) else digI j (UInt8.ofNat c))) = true := by kernel_rfl
theorem digI_step (j : Nat) (hj : j < 16) (c : UInt8) : digI (j + 1) c = if dgU j = c then (j : Int) else digI j c := by
  have h1 := List.all_eq_true.1 digI_step_all j (List.mem_range.2 hj)
  have h2 := of_decide_eq_true (List.all_eq_true.1 h1 c.toNat (List.mem_range.2 c.toNat_lt))
  have e : UInt8.ofNat c.toNat = c := by simp
  rwa [e] at h2
theorem digI_zero (c : UInt8) : digI 0 c = -1 := by unfold digI; split <;> simp
theorem vdR_long {b : Nat} {s : ByteArray} (h : 30 < s.size) : vdR b (bs s) = none := by unfold vdR; rw [if_pos (by rw [bs_len]; exact h)]
theorem vdR_short {b : Nat} {s : ByteArray} (h : ¬ 30 < s.size) (h0 : 0 < s.size) : vdR b (bs s) = valL b 0 (bs s) := by
  unfold vdR vR
  rw [if_neg (by rw [bs_len]; exact h), if_neg]
  intro e
  have := congrArg List.length e
  rw [bs_len, List.length_nil] at this
  omega
theorem ne_empty {s : ByteArray} (h : 0 < s.size) : (s.toList == []) = false := by
  rw [toList_bs]
  cases e : bs s with
  | nil => have := congrArg List.length e
           rw [bs_len, List.length_nil] at this
           omega
  | cons c l => rfl
set_option maxHeartbeats 2000000 in
theorem valued_any (s : ByteArray) (b : Nat) (hs : s.size ≤ 9223372036854775806) (hb1 : 2 ≤ b) (hb : b ≤ 16) (w : World) :
    Calls Tryz.prog 58 #[.string s, .int .i64 b] w fun e w' => e = .returned (.int .i64 (negN (vdR b (bs s)))) ∧ ∃ n, w' = w.drewN n := by
  by_cases h0 : s.size = 0
  · have hz : s = ⟨#[]⟩ := by apply bs_ext; exact List.length_eq_zero_iff.1 (by rw [bs_len]; exact h0)
    subst hz
    go_enter Tryz.func58, Tryz.ntmps58
    go_wp2
    go_ret
    exact ⟨rfl, 0, rfl⟩
  · have hne := ne_empty (s := s) (by omega)
    by_cases h30 : 30 < s.size
    · have HR := Lib.hid (show negN (vdR b (bs s)) = -1 by rw [vdR_long h30]; rfl)
      have h30' : (30 : Int) < s.size := by omega
      go_enter Tryz.func58, Tryz.ntmps58
      go_wp2_with fail
      go_ret
      exact ⟨by rw [HR.out]; rfl, 0, rfl⟩
    · have HV := Lib.hid (vdR_short (b := b) h30 (by omega))
      have h30' : ¬ (30 : Int) < s.size := by omega
      go_enter Tryz.func58, Tryz.ntmps58
      go_wp2_with fail
      clear hne h30'
      go_loopg [5, 6] s.size (fun g s5 s6 wx => ∃ k v : Nat, k + g = s.size ∧ s6 = .int .i64 k ∧ s5 = .int .i64 v ∧ v ≤ 1000000000 ∧ Hid (valL b v ((bs s).drop k) = valL b 0 (bs s)) ∧ Hid (∃ m, wx = w.drewN m))
      case atStart => exact ⟨0, 0, by omega, rfl, rfl, by omega, Lib.hid rfl, Lib.hid ⟨0, rfl⟩⟩
      case round =>
        obtain ⟨k, v, hkg, rfl, rfl, hv, HI, HW⟩ := hrel
        cases gk with
        | zero =>
          obtain rfl : k = s.size := by omega
          have HF := Lib.hid (show negN (vdR b (bs s)) = v by
            rw [HV.out, ← HI.out, List.drop_eq_nil_of_le (by rw [bs_len]; exact Nat.le_refl _)]; rfl)
          go_wp2
          go_ret
          exact ⟨by rw [HF.out]; rfl, HW.out⟩
        | succ g =>
          have hlt : k < s.size := by omega
          have HA := Lib.hid (valL_at (base := b) (n := v) hlt)
          obtain ⟨wo, rfl⟩ : ∃ wo : World, wo = wr := ⟨_, rfl⟩
          go_wp2
          go_loopg [7, 8] b (fun g2 s7 s8 wy => ∃ j m : Nat, j + g2 = b ∧ s8 = .int .i64 j ∧ s7 = .int .i64 (digI j s[k]) ∧ wy = wo.drewN m)
          case atStart => exact ⟨0, 0, by omega, rfl, by rw [digI_zero], rfl⟩
          case round =>
            obtain ⟨j, m, hjg, rfl, rfl, rfl⟩ := hrel
            cases gk with
            | zero =>
              obtain rfl : j = b := by omega
              have hdl := digI_lt j s[k]
              have hm : v * j ≤ 16000000000 := Nat.mul_le_mul hv hb
              have hm1 : (v : Int) * j ≤ 16000000000 := by rw [← Int.natCast_mul]; omega
              have hm0 : 0 ≤ (v : Int) * j := by rw [← Int.natCast_mul]; omega
              by_cases hd : digI j s[k] < 0
              · have HF := Lib.hid (show negN (vdR j (bs s)) = -1 by rw [HV.out, ← HI.out, HA.out, if_pos hd]; rfl)
                have hd1 : digI j s[k] = -1 := by omega
                rw [hd1]
                clear hd hd1 hdl HA HI HV
                go_wp2
                go_ret
                refine ⟨by rw [HF.out]; rfl, ?_⟩
                obtain ⟨q, rfl⟩ := HW.out
                exact ⟨_, World.drewN_drewN _ _ _⟩
              · obtain ⟨d, hdd⟩ : ∃ d : Nat, digI j s[k] = d := ⟨(digI j s[k]).toNat, by omega⟩
                rw [hdd] at hdl hd HA ⊢
                clear hdd
                by_cases hg : 1000000000 < v * j + d
                · have HF := Lib.hid (show negN (vdR j (bs s)) = -1 by rw [HV.out, ← HI.out, HA.out, if_neg hd, if_pos (by rw [Int.toNat_natCast]; exact hg)]; rfl)
                  have hg' : (1000000000 : Int) < (v : Int) * j + d := by rw [← Int.natCast_mul]; omega
                  clear HA HI HV hg
                  go_wp2
                  go_ret
                  refine ⟨by rw [HF.out]; rfl, ?_⟩
                  obtain ⟨q, rfl⟩ := HW.out
                  exact ⟨_, World.drewN_drewN _ _ _⟩
                · have HN := Lib.hid (show valL j (v * j + d) ((bs s).drop (k + 1)) = valL j 0 (bs s) by
                    rw [← HI.out, HA.out, if_neg hd, if_neg (by rw [Int.toNat_natCast]; exact hg), Int.toNat_natCast])
                  have hg' : ¬ (1000000000 : Int) < (v : Int) * j + d := by rw [← Int.natCast_mul]; omega
                  clear HA HI hm
                  go_wp2
                  go_roundg g
                  case measure => omega
                  case rel =>
                    refine ⟨k + 1, v * j + d, by omega, by go_num, by simp, by omega, HN, ?_⟩
                    obtain ⟨q, rfl⟩ := HW.out
                    exact Lib.hid ⟨_, World.drewN_drewN _ _ _⟩
            | succ g2 =>
              have h16 : j < 16 := by omega
              have hdv : ∀ h', @getElem ByteArray Nat UInt8 _ _ (⟨#[48, 49, 50, 51, 52, 53, 54, 55, 56, 57, 65, 66, 67, 68, 69, 70]⟩ : ByteArray) j h' = dgU j := fun h' => hexStr_at j h16 h'
              have hst := digI_step j h16 s[k]
              by_cases he : dgU j = s[k]
              · have hb' : (((dgU j).toNat : Int) == (s[k].toNat : Int)) = true := by rw [he]; simp
                rw [if_pos he] at hst
                have HS := Lib.hid hst
                clear hst he HA HI HV
                go_wp2
                go_quiet (fail)
                go_wp2
                go_roundg g2
                case measure => omega
                case rel => exact ⟨j + 1, m + nq, by omega, by go_num, by rw [HS.out], by simp⟩
              · have hb' : (((dgU j).toNat : Int) == (s[k].toNat : Int)) = false := by
                  rw [beq_eq_false_iff_ne]
                  intro h
                  exact he (UInt8.toNat_inj.1 (by omega))
                rw [if_neg he] at hst
                have HS := Lib.hid hst
                clear hst he HA HI HV
                go_wp2
                go_quiet (fail)
                go_wp2
                go_roundg g2
                case measure => omega
                case rel => exact ⟨j + 1, m + nq, by omega, by go_num, by rw [HS.out], by simp⟩
theorem hex_one_fin : ∀ d : Fin 16, hexStr.extract d.val (d.val + 1) = mkS [dgU d.val] := by
  intro d
  apply bs_ext
  revert d
  decide
theorem hex_one (d : Nat) (h : d < 16) (W : World) : (Instr.slice 9 (.string ⟨#[48, 49, 50, 51, 52, 53, 54, 55, 56, 57, 65, 66, 67, 68, 69, 70]⟩) (some (.int .i64 (d : Int))) (some (.int .i64 ((d : Int) + 1))) none).run Tryz.prog W = .ok (.string (mkS [dgU d])) W := by
  have h16 : hexStr.size = 16 := by kernel_rfl
  have := run_slice_string (P := Tryz.prog) (w := W) 9 hexStr .i64 .i64 (d : Int) ((d : Int) + 1) Tryz.underlying9 (by omega) (by omega) (by rw [h16]; omega)
  have e1 : ((d : Int)).toNat = d := by simp
  have e2 : ((d : Int) + 1).toNat = d + 1 := by omega
  rw [e1, e2, hex_one_fin ⟨d, h⟩] at this
  exact this
set_option maxHeartbeats 1600000 in
theorem inBase_any (b : Nat) (hb1 : 2 ≤ b) (hb : b ≤ 16) : ∀ (f n : Nat), n < b ^ (f + 1) → n ≤ 1000000000 → ∀ w, Calls Tryz.prog 62 #[.int .i64 n, .int .i64 b] w fun e w' => e = .returned (.string (mkS (inBL b f n))) ∧ ∃ m, w' = w.drewN m := by
  have hsmall : ∀ (f n : Nat), n < b → n ≤ 1000000000 → ∀ w, Calls Tryz.prog 62 #[.int .i64 n, .int .i64 b] w fun e w' => e = .returned (.string (mkS (inBL b f n))) ∧ ∃ m, w' = w.drewN m := by
    intro f n hn h9 w
    have hb0 : ¬ (b : Int) = 0 := by omega
    have hr : (n : Int).tmod (b : Int) = (n : Int) := by rw [Int.tmod_eq_emod_of_nonneg (by omega)]; exact Int.emod_eq_of_lt (by omega) (by omega)
    have hs := fun W => hex_one n (by omega) W
    have HL := Lib.hid (inBL_one (f := f) hn)
    have hlt : (n : Int) < b := by omega
    go_enter Tryz.func62, Tryz.ntmps62
    go_wp2
    go_quiet (fail)
    go_wp2
    go_ret
    exact ⟨by rw [HL.out]; rfl, _, rfl⟩
  intro f
  induction f with
  | zero => intro n hn h9 w; exact hsmall 0 n (by simpa using hn) h9 w
  | succ f ih =>
    intro n hn h9 w
    by_cases hlt : n < b
    · exact hsmall _ n hlt h9 w
    · have hb0 : ¬ (b : Int) = 0 := by omega
      have hr : (n : Int).tmod (b : Int) = ((n % b : Nat) : Int) := by rw [Int.tmod_eq_emod_of_nonneg (by omega)]; simp
      have hq : (n : Int).tdiv (b : Int) = ((n / b : Nat) : Int) := by rw [Int.tdiv_eq_ediv_of_nonneg (by omega)]; simp
      have hqle : n / b ≤ 1000000000 := Nat.le_trans (Nat.div_le_self _ _) h9
      have hm := Nat.mod_lt n (show 0 < b by omega)
      have hs := fun W => hex_one (n % b) (by omega) W
      have HL := Lib.hid (inBL_more (f := f) hlt)
      have HI := hide (ih (n / b) (div_fit hb1 hn) (Nat.le_trans (Nat.div_le_self _ _) h9))
      have hlt' : ¬ (n : Int) < b := by omega
      have hl := inBL_len hb1 (f := f) (fit30 hb1 (Nat.le_trans (Nat.div_le_self n b) h9))
      revert hr hq hqle hm hs HL HI hl
      generalize n % b = r
      generalize n / b = q
      intro hr hq hqle hm hs HL HI hl
      obtain ⟨U, hU⟩ : ∃ U, inBL b f q = U := ⟨_, rfl⟩
      rw [hU] at HL HI hl
      have hs1 : (mkS U).size ≤ 30 := by rw [← bs_len, bs_mkS]; exact hl
      have hs2 : (mkS [dgU r]).size = 1 := rfl
      have hcat : mkS U ++ mkS [dgU r] = mkS (U ++ [dgU r]) := mkS_app _ _
      clear hU hl
      clear ih hn hsmall
      go_enter Tryz.func62, Tryz.ntmps62
      go_wp2
      go_quiet (fail)
      go_wp2_with fail
      refine (unhide HI _).mono ?_
      rintro e w1 ⟨rfl, n1, rfl⟩
      go_wp2_with fail
      go_ret
      exact ⟨by rw [HL.out]; rfl, _, rfl⟩
theorem cls_d (c : Int) : isOne 100 100 c = digB c := by
  unfold isOne clsI letB digB
  rw [Bool.eq_iff_iff]
  simp
  split
  · simp; omega
  · split
    · simp; omega
    · split <;> simp <;> omega
theorem vd_le {b : Nat} {l : List UInt8} {n : Nat} (h : vdR b l = some n) : n ≤ 1000000000 := by
  unfold vdR at h
  split at h
  · cases h
  · exact vR_le h
set_option maxHeartbeats 1600000 in
theorem val_zero (s : ByteArray) (hs : s.size ≤ 20000) (m : Nat) (hm0 : m ≤ s.size) (w : World) (hH : Hid (∀ W : World, Calls Tryz.prog 50 #[.string s, .int .u8 100, .int .u8 100] W fun e w' => e = .returned (.int .i64 m) ∧ W = w')) (o : Int) (HV1 : Hid (∀ W : World, Calls Tryz.prog 58 #[.string (s.extract 0 m), .int .i64 10] W fun e w' => e = .returned (.int .i64 o) ∧ ∃ n, w' = W.drewN n)) (h1 : (1 : Int) < m) (h48 : ((s[0]'(by omega)).toNat : Int) = 48) (HR : Hid (valR (bs s) = none)) :
    Calls Tryz.prog 26 #[.string s] w fun e w' => e = .returned (.tuple #[.int .i64 (optN (valR (bs s))), .int .i64 (errN (valR (bs s)))]) ∧ ∃ n, w' = w.drewN n := by
  have h48' : (((s[0]'(by omega)).toNat : Int) == 48) = true := by rw [h48]; rfl
  clear h48
  by_cases hlt : m < s.size
  · have hlt' : (m : Int) < s.size := by omega
    go_enter Tryz.func26, Tryz.ntmps26
    go_wp2_with (first | (go_at_call 50; refine (unhide hH _).mono ?_; rintro e w1 ⟨rfl, rfl⟩) | (go_at_call 58; refine (unhide HV1 _).mono ?_; rintro e w2 ⟨rfl, n2, rfl⟩))
    go_ret2
    exact ⟨ret_two (by rw [HR.out]; rfl) (by rw [HR.out]; rfl), _, rfl⟩
  · have hlt' : ¬ (m : Int) < s.size := by omega
    go_enter Tryz.func26, Tryz.ntmps26
    go_wp2_with (first | (go_at_call 50; refine (unhide hH _).mono ?_; rintro e w1 ⟨rfl, rfl⟩) | (go_at_call 58; refine (unhide HV1 _).mono ?_; rintro e w2 ⟨rfl, n2, rfl⟩))
    go_ret2
    exact ⟨ret_two (by rw [HR.out]; rfl) (by rw [HR.out]; rfl), _, rfl⟩
set_option maxHeartbeats 1600000 in
theorem val_none_a (s : ByteArray) (hs : s.size ≤ 20000) (m : Nat) (hm0 : m ≤ s.size) (w : World) (hH : Hid (∀ W : World, Calls Tryz.prog 50 #[.string s, .int .u8 100, .int .u8 100] W fun e w' => e = .returned (.int .i64 m) ∧ W = w')) (HV1 : Hid (∀ W : World, Calls Tryz.prog 58 #[.string (s.extract 0 m), .int .i64 10] W fun e w' => e = .returned (.int .i64 (-1)) ∧ ∃ n, w' = W.drewN n)) (h1 : ¬ (1 : Int) < m) (HR : Hid (valR (bs s) = none)) :
    Calls Tryz.prog 26 #[.string s] w fun e w' => e = .returned (.tuple #[.int .i64 (optN (valR (bs s))), .int .i64 (errN (valR (bs s)))]) ∧ ∃ n, w' = w.drewN n := by
  by_cases hlt : m < s.size
  · have hlt' : (m : Int) < s.size := by omega
    go_enter Tryz.func26, Tryz.ntmps26
    go_wp2_with (first | (go_at_call 50; refine (unhide hH _).mono ?_; rintro e w1 ⟨rfl, rfl⟩) | (go_at_call 58; refine (unhide HV1 _).mono ?_; rintro e w2 ⟨rfl, n2, rfl⟩))
    go_ret2
    exact ⟨ret_two (by rw [HR.out]; rfl) (by rw [HR.out]; rfl), _, rfl⟩
  · have hlt' : ¬ (m : Int) < s.size := by omega
    go_enter Tryz.func26, Tryz.ntmps26
    go_wp2_with (first | (go_at_call 50; refine (unhide hH _).mono ?_; rintro e w1 ⟨rfl, rfl⟩) | (go_at_call 58; refine (unhide HV1 _).mono ?_; rintro e w2 ⟨rfl, n2, rfl⟩))
    go_ret2
    exact ⟨ret_two (by rw [HR.out]; rfl) (by rw [HR.out]; rfl), _, rfl⟩
set_option maxHeartbeats 1600000 in
theorem val_some_a (s : ByteArray) (hs : s.size ≤ 20000) (m : Nat) (hm0 : m ≤ s.size) (w : World) (hH : Hid (∀ W : World, Calls Tryz.prog 50 #[.string s, .int .u8 100, .int .u8 100] W fun e w' => e = .returned (.int .i64 m) ∧ W = w')) (n : Nat) (HV1 : Hid (∀ W : World, Calls Tryz.prog 58 #[.string (s.extract 0 m), .int .i64 10] W fun e w' => e = .returned (.int .i64 n) ∧ ∃ n, w' = W.drewN n)) (h1 : ¬ (1 : Int) < m) (hlt : ¬ m < s.size) (HR : Hid (valR (bs s) = some n)) :
    Calls Tryz.prog 26 #[.string s] w fun e w' => e = .returned (.tuple #[.int .i64 (optN (valR (bs s))), .int .i64 (errN (valR (bs s)))]) ∧ ∃ n, w' = w.drewN n := by
  have hlt' : ¬ (m : Int) < s.size := by omega
  go_enter Tryz.func26, Tryz.ntmps26
  go_wp2_with (first | (go_at_call 50; refine (unhide hH _).mono ?_; rintro e w1 ⟨rfl, rfl⟩) | (go_at_call 58; refine (unhide HV1 _).mono ?_; rintro e w2 ⟨rfl, n2, rfl⟩))
  go_ret2
  exact ⟨ret_two (by rw [HR.out]; rfl) (by rw [HR.out]; rfl), _, rfl⟩
set_option maxHeartbeats 1600000 in
theorem val_bad_a (s : ByteArray) (_hs : s.size ≤ 20000) (m : Nat) (hm0 : m ≤ s.size) (w : World) (hH : Hid (∀ W : World, Calls Tryz.prog 50 #[.string s, .int .u8 100, .int .u8 100] W fun e w' => e = .returned (.int .i64 m) ∧ W = w')) (n : Nat) (HV1 : Hid (∀ W : World, Calls Tryz.prog 58 #[.string (s.extract 0 m), .int .i64 10] W fun e w' => e = .returned (.int .i64 n) ∧ ∃ n, w' = W.drewN n)) (h1 : ¬ (1 : Int) < m) (hlt : m < s.size) (hno : ¬ (s[m].toNat = 95 ∧ 2 ≤ n ∧ n ≤ 16)) (HR : Hid (valR (bs s) = none)) :
    Calls Tryz.prog 26 #[.string s] w fun e w' => e = .returned (.tuple #[.int .i64 (optN (valR (bs s))), .int .i64 (errN (valR (bs s)))]) ∧ ∃ n, w' = w.drewN n := by
  have hlt' : (m : Int) < s.size := by omega
  by_cases h95 : s[m].toNat = 95
  · have h95' : ((s[m].toNat : Int) == 95) = true := by rw [h95]; rfl
    have hno' : ¬ (2 ≤ n ∧ n ≤ 16) := fun h => hno ⟨h95, h⟩
    clear h95 hno
    by_cases h2 : 2 ≤ n
    · have h16 : ¬ (n : Int) ≤ 16 := by omega
      have h2' : (2 : Int) ≤ n := by omega
      clear hno'
      go_enter Tryz.func26, Tryz.ntmps26
      go_wp2_with (first | (go_at_call 50; refine (unhide hH _).mono ?_; rintro e w1 ⟨rfl, rfl⟩) | (go_at_call 58; refine (unhide HV1 _).mono ?_; rintro e w2 ⟨rfl, n2, rfl⟩))
      go_ret2
      exact ⟨ret_two (by rw [HR.out]; rfl) (by rw [HR.out]; rfl), _, rfl⟩
    · have h2' : ¬ (2 : Int) ≤ n := by omega
      clear hno'
      go_enter Tryz.func26, Tryz.ntmps26
      go_wp2_with (first | (go_at_call 50; refine (unhide hH _).mono ?_; rintro e w1 ⟨rfl, rfl⟩) | (go_at_call 58; refine (unhide HV1 _).mono ?_; rintro e w2 ⟨rfl, n2, rfl⟩))
      go_ret2
      exact ⟨ret_two (by rw [HR.out]; rfl) (by rw [HR.out]; rfl), _, rfl⟩
  · have h95' : ((s[m].toNat : Int) == 95) = false := by
      rw [beq_eq_false_iff_ne]; intro h; exact h95 (by omega)
    clear h95 hno
    go_enter Tryz.func26, Tryz.ntmps26
    go_wp2_with (first | (go_at_call 50; refine (unhide hH _).mono ?_; rintro e w1 ⟨rfl, rfl⟩) | (go_at_call 58; refine (unhide HV1 _).mono ?_; rintro e w2 ⟨rfl, n2, rfl⟩))
    go_ret2
    exact ⟨ret_two (by rw [HR.out]; rfl) (by rw [HR.out]; rfl), _, rfl⟩
set_option maxHeartbeats 1600000 in
theorem val_two_a (s : ByteArray) (_hs : s.size ≤ 20000) (m : Nat) (hm0 : m ≤ s.size) (w : World) (hH : Hid (∀ W : World, Calls Tryz.prog 50 #[.string s, .int .u8 100, .int .u8 100] W fun e w' => e = .returned (.int .i64 m) ∧ W = w')) (n : Nat) (hn : 2 ≤ n ∧ n ≤ 16) (HV1 : Hid (∀ W : World, Calls Tryz.prog 58 #[.string (s.extract 0 m), .int .i64 10] W fun e w' => e = .returned (.int .i64 n) ∧ ∃ n, w' = W.drewN n)) (h1 : ¬ (1 : Int) < m) (hlt : m < s.size) (h95 : s[m].toNat = 95) (o : Option Nat) (HR : Hid (valR (bs s) = o))
    (HV2 : Hid (∀ W : World, Calls Tryz.prog 58 #[.string (s.extract (m + 1) s.size), .int .i64 n] W fun e w' => e = .returned (.int .i64 (negN o)) ∧ ∃ n, w' = W.drewN n)) :
    Calls Tryz.prog 26 #[.string s] w fun e w' => e = .returned (.tuple #[.int .i64 (optN (valR (bs s))), .int .i64 (errN (valR (bs s)))]) ∧ ∃ n, w' = w.drewN n := by
  have hlt' : (m : Int) < s.size := by omega
  have h95' : ((s[m].toNat : Int) == 95) = true := by rw [h95]; rfl
  have h2' : (2 : Int) ≤ n := by omega
  have h16' : (n : Int) ≤ 16 := by omega
  clear h95
  cases o with
  | none =>
    have hv2 := unhide HV2
    simp only [negN] at hv2
    have HV2 := hide hv2
    clear hv2
    go_enter Tryz.func26, Tryz.ntmps26
    go_wp2_with fail
    refine (unhide hH _).mono ?_
    rintro e w1 ⟨rfl, rfl⟩
    go_wp2_with fail
    refine (unhide HV1 _).mono ?_
    rintro e w2 ⟨rfl, n2, rfl⟩
    go_wp2_with fail
    refine (unhide HV2 _).mono ?_
    rintro e w3 ⟨rfl, n3, rfl⟩
    go_wp2_with fail
    go_ret2
    exact ⟨ret_two (by rw [HR.out]; rfl) (by rw [HR.out]; rfl), _, rfl⟩
  | some r =>
    have hv2 := unhide HV2
    simp only [negN] at hv2
    have HV2 := hide hv2
    clear hv2
    go_enter Tryz.func26, Tryz.ntmps26
    go_wp2_with fail
    refine (unhide hH _).mono ?_
    rintro e w1 ⟨rfl, rfl⟩
    go_wp2_with fail
    refine (unhide HV1 _).mono ?_
    rintro e w2 ⟨rfl, n2, rfl⟩
    go_wp2_with fail
    refine (unhide HV2 _).mono ?_
    rintro e w3 ⟨rfl, n3, rfl⟩
    go_wp2_with fail
    go_ret2
    exact ⟨ret_two (by rw [HR.out]; rfl) (by rw [HR.out]; rfl), _, rfl⟩
set_option maxHeartbeats 1600000 in
theorem val_none_b (s : ByteArray) (hs : s.size ≤ 20000) (m : Nat) (hm0 : m ≤ s.size) (w : World) (hH : Hid (∀ W : World, Calls Tryz.prog 50 #[.string s, .int .u8 100, .int .u8 100] W fun e w' => e = .returned (.int .i64 m) ∧ W = w')) (HV1 : Hid (∀ W : World, Calls Tryz.prog 58 #[.string (s.extract 0 m), .int .i64 10] W fun e w' => e = .returned (.int .i64 (-1)) ∧ ∃ n, w' = W.drewN n)) (h1 : (1 : Int) < m) (h48 : ¬ ((s[0]'(by omega)).toNat : Int) = 48) (HR : Hid (valR (bs s) = none)) :
    Calls Tryz.prog 26 #[.string s] w fun e w' => e = .returned (.tuple #[.int .i64 (optN (valR (bs s))), .int .i64 (errN (valR (bs s)))]) ∧ ∃ n, w' = w.drewN n := by
  have h48' : (((s[0]'(by omega)).toNat : Int) == 48) = false := by simpa using h48
  clear h48
  by_cases hlt : m < s.size
  · have hlt' : (m : Int) < s.size := by omega
    go_enter Tryz.func26, Tryz.ntmps26
    go_wp2_with (first | (go_at_call 50; refine (unhide hH _).mono ?_; rintro e w1 ⟨rfl, rfl⟩) | (go_at_call 58; refine (unhide HV1 _).mono ?_; rintro e w2 ⟨rfl, n2, rfl⟩))
    go_ret2
    exact ⟨ret_two (by rw [HR.out]; rfl) (by rw [HR.out]; rfl), _, rfl⟩
  · have hlt' : ¬ (m : Int) < s.size := by omega
    go_enter Tryz.func26, Tryz.ntmps26
    go_wp2_with (first | (go_at_call 50; refine (unhide hH _).mono ?_; rintro e w1 ⟨rfl, rfl⟩) | (go_at_call 58; refine (unhide HV1 _).mono ?_; rintro e w2 ⟨rfl, n2, rfl⟩))
    go_ret2
    exact ⟨ret_two (by rw [HR.out]; rfl) (by rw [HR.out]; rfl), _, rfl⟩
set_option maxHeartbeats 1600000 in
theorem val_some_b (s : ByteArray) (hs : s.size ≤ 20000) (m : Nat) (hm0 : m ≤ s.size) (w : World) (hH : Hid (∀ W : World, Calls Tryz.prog 50 #[.string s, .int .u8 100, .int .u8 100] W fun e w' => e = .returned (.int .i64 m) ∧ W = w')) (n : Nat) (HV1 : Hid (∀ W : World, Calls Tryz.prog 58 #[.string (s.extract 0 m), .int .i64 10] W fun e w' => e = .returned (.int .i64 n) ∧ ∃ n, w' = W.drewN n)) (h1 : (1 : Int) < m) (h48 : ¬ ((s[0]'(by omega)).toNat : Int) = 48) (hlt : ¬ m < s.size) (HR : Hid (valR (bs s) = some n)) :
    Calls Tryz.prog 26 #[.string s] w fun e w' => e = .returned (.tuple #[.int .i64 (optN (valR (bs s))), .int .i64 (errN (valR (bs s)))]) ∧ ∃ n, w' = w.drewN n := by
  have h48' : (((s[0]'(by omega)).toNat : Int) == 48) = false := by simpa using h48
  clear h48
  have hlt' : ¬ (m : Int) < s.size := by omega
  go_enter Tryz.func26, Tryz.ntmps26
  go_wp2_with (first | (go_at_call 50; refine (unhide hH _).mono ?_; rintro e w1 ⟨rfl, rfl⟩) | (go_at_call 58; refine (unhide HV1 _).mono ?_; rintro e w2 ⟨rfl, n2, rfl⟩))
  go_ret2
  exact ⟨ret_two (by rw [HR.out]; rfl) (by rw [HR.out]; rfl), _, rfl⟩
set_option maxHeartbeats 1600000 in
theorem val_bad_b (s : ByteArray) (_hs : s.size ≤ 20000) (m : Nat) (hm0 : m ≤ s.size) (w : World) (hH : Hid (∀ W : World, Calls Tryz.prog 50 #[.string s, .int .u8 100, .int .u8 100] W fun e w' => e = .returned (.int .i64 m) ∧ W = w')) (n : Nat) (HV1 : Hid (∀ W : World, Calls Tryz.prog 58 #[.string (s.extract 0 m), .int .i64 10] W fun e w' => e = .returned (.int .i64 n) ∧ ∃ n, w' = W.drewN n)) (h1 : (1 : Int) < m) (h48 : ¬ ((s[0]'(by omega)).toNat : Int) = 48) (hlt : m < s.size) (hno : ¬ (s[m].toNat = 95 ∧ 2 ≤ n ∧ n ≤ 16)) (HR : Hid (valR (bs s) = none)) :
    Calls Tryz.prog 26 #[.string s] w fun e w' => e = .returned (.tuple #[.int .i64 (optN (valR (bs s))), .int .i64 (errN (valR (bs s)))]) ∧ ∃ n, w' = w.drewN n := by
  have h48' : (((s[0]'(by omega)).toNat : Int) == 48) = false := by simpa using h48
  clear h48
  have hlt' : (m : Int) < s.size := by omega
  by_cases h95 : s[m].toNat = 95
  · have h95' : ((s[m].toNat : Int) == 95) = true := by rw [h95]; rfl
    have hno' : ¬ (2 ≤ n ∧ n ≤ 16) := fun h => hno ⟨h95, h⟩
    clear h95 hno
    by_cases h2 : 2 ≤ n
    · have h16 : ¬ (n : Int) ≤ 16 := by omega
      have h2' : (2 : Int) ≤ n := by omega
      clear hno'
      go_enter Tryz.func26, Tryz.ntmps26
      go_wp2_with (first | (go_at_call 50; refine (unhide hH _).mono ?_; rintro e w1 ⟨rfl, rfl⟩) | (go_at_call 58; refine (unhide HV1 _).mono ?_; rintro e w2 ⟨rfl, n2, rfl⟩))
      go_ret2
      exact ⟨ret_two (by rw [HR.out]; rfl) (by rw [HR.out]; rfl), _, rfl⟩
    · have h2' : ¬ (2 : Int) ≤ n := by omega
      clear hno'
      go_enter Tryz.func26, Tryz.ntmps26
      go_wp2_with (first | (go_at_call 50; refine (unhide hH _).mono ?_; rintro e w1 ⟨rfl, rfl⟩) | (go_at_call 58; refine (unhide HV1 _).mono ?_; rintro e w2 ⟨rfl, n2, rfl⟩))
      go_ret2
      exact ⟨ret_two (by rw [HR.out]; rfl) (by rw [HR.out]; rfl), _, rfl⟩
  · have h95' : ((s[m].toNat : Int) == 95) = false := by
      rw [beq_eq_false_iff_ne]; intro h; exact h95 (by omega)
    clear h95 hno
    go_enter Tryz.func26, Tryz.ntmps26
    go_wp2_with (first | (go_at_call 50; refine (unhide hH _).mono ?_; rintro e w1 ⟨rfl, rfl⟩) | (go_at_call 58; refine (unhide HV1 _).mono ?_; rintro e w2 ⟨rfl, n2, rfl⟩))
    go_ret2
    exact ⟨ret_two (by rw [HR.out]; rfl) (by rw [HR.out]; rfl), _, rfl⟩
set_option maxHeartbeats 1600000 in
theorem val_two_b (s : ByteArray) (hs : s.size ≤ 20000) (m : Nat) (hm0 : m ≤ s.size) (w : World) (hH : Hid (∀ W : World, Calls Tryz.prog 50 #[.string s, .int .u8 100, .int .u8 100] W fun e w' => e = .returned (.int .i64 m) ∧ W = w')) (n : Nat) (hn : 2 ≤ n ∧ n ≤ 16) (HV1 : Hid (∀ W : World, Calls Tryz.prog 58 #[.string (s.extract 0 m), .int .i64 10] W fun e w' => e = .returned (.int .i64 n) ∧ ∃ n, w' = W.drewN n)) (h1 : (1 : Int) < m) (h48 : ¬ ((s[0]'(by omega)).toNat : Int) = 48) (hlt : m < s.size) (h95 : s[m].toNat = 95) (o : Option Nat) (HR : Hid (valR (bs s) = o))
    (HV2 : Hid (∀ W : World, Calls Tryz.prog 58 #[.string (s.extract (m + 1) s.size), .int .i64 n] W fun e w' => e = .returned (.int .i64 (negN o)) ∧ ∃ n, w' = W.drewN n)) :
    Calls Tryz.prog 26 #[.string s] w fun e w' => e = .returned (.tuple #[.int .i64 (optN (valR (bs s))), .int .i64 (errN (valR (bs s)))]) ∧ ∃ n, w' = w.drewN n := by
  have h48' : (((s[0]'(by omega)).toNat : Int) == 48) = false := by simpa using h48
  clear h48
  have hlt' : (m : Int) < s.size := by omega
  have h95' : ((s[m].toNat : Int) == 95) = true := by rw [h95]; rfl
  have h2' : (2 : Int) ≤ n := by omega
  have h16' : (n : Int) ≤ 16 := by omega
  clear h95
  cases o with
  | none =>
    have hv2 := unhide HV2
    simp only [negN] at hv2
    have HV2 := hide hv2
    clear hv2
    go_enter Tryz.func26, Tryz.ntmps26
    go_wp2_with fail
    refine (unhide hH _).mono ?_
    rintro e w1 ⟨rfl, rfl⟩
    go_wp2_with fail
    refine (unhide HV1 _).mono ?_
    rintro e w2 ⟨rfl, n2, rfl⟩
    go_wp2_with fail
    refine (unhide HV2 _).mono ?_
    rintro e w3 ⟨rfl, n3, rfl⟩
    go_wp2_with fail
    go_ret2
    exact ⟨ret_two (by rw [HR.out]; rfl) (by rw [HR.out]; rfl), _, rfl⟩
  | some r =>
    have hv2 := unhide HV2
    simp only [negN] at hv2
    have HV2 := hide hv2
    clear hv2
    go_enter Tryz.func26, Tryz.ntmps26
    go_wp2_with fail
    refine (unhide hH _).mono ?_
    rintro e w1 ⟨rfl, rfl⟩
    go_wp2_with fail
    refine (unhide HV1 _).mono ?_
    rintro e w2 ⟨rfl, n2, rfl⟩
    go_wp2_with fail
    refine (unhide HV2 _).mono ?_
    rintro e w3 ⟨rfl, n3, rfl⟩
    go_wp2_with fail
    go_ret2
    exact ⟨ret_two (by rw [HR.out]; rfl) (by rw [HR.out]; rfl), _, rfl⟩
/-- What the reference's Value hands back. -/
theorem refValue_any (s : ByteArray) (hs : s.size ≤ 20000) (w : World) : Calls Tryz.prog 26 #[.string s] w fun e w' => e = .returned (.tuple #[.int .i64 (optN (valR (bs s))), .int .i64 (errN (valR (bs s)))]) ∧ ∃ n, w' = w.drewN n := by
  have hm0 := spn_le digB (bs s)
  rw [bs_len] at hm0
  have hspan := fun W => span_any s (by omega) 100 100 W
  rw [show isOne ((100 : Nat) : Int) ((100 : Nat) : Int) = digB from funext cls_d] at hspan
  have hR := (refR_eq (bs s)).symm
  unfold refR at hR
  rw [bs_len] at hR
  obtain ⟨m, hm⟩ : ∃ m, spn digB (bs s) = m := ⟨_, rfl⟩
  rw [hm] at hspan hR hm0
  have hH := hide hspan
  have hv1 := fun W => valued_any (s.extract 0 m) 10 (by rw [ByteArray.size_extract]; omega) (by omega) (by omega) W
  rw [bs_take] at hv1
  have hle := fun n (h : vdR 10 ((bs s).take m) = some n) => vd_le h
  revert hv1 hR hle
  generalize vdR 10 ((bs s).take m) = o1
  intro hR hv1 hle
  by_cases h1 : (1 : Int) < m
  · have h0 : 0 < s.size := by omega
    have hg := bs_get s 0 h0
    by_cases h48 : ((s[0]'h0).toNat : Int) = 48
    · rw [if_pos ⟨by omega, by rw [List.head?_eq_getElem?, hg]; exact congrArg some (UInt8.toNat_inj.1 (by rw [show (48 : UInt8).toNat = 48 from rfl]; omega))⟩] at hR
      exact val_zero s hs m hm0 w hH (negN o1) (hide hv1) h1 h48 (Lib.hid hR)
    · rw [if_neg (by
        rintro ⟨_, h⟩
        rw [List.head?_eq_getElem?, hg] at h
        injection h with h
        rw [h] at h48; exact h48 rfl)] at hR
      cases o1 with
      | none => exact val_none_b s hs m hm0 w hH (hide hv1) h1 h48 (Lib.hid hR)
      | some n =>
        have hn := hle n rfl
        simp only at hR
        by_cases hlt : m < s.size
        · rw [if_pos hlt, bs_get s m hlt] at hR
          by_cases hok : s[m].toNat = 95 ∧ 2 ≤ n ∧ n ≤ 16
          · rw [if_pos ⟨congrArg some (UInt8.toNat_inj.1 hok.1), hok.2⟩] at hR
            have hv2 := fun W => valued_any (s.extract (m + 1) s.size) n (by rw [ByteArray.size_extract]; omega) hok.2.1 hok.2.2 W
            rw [bs_drop] at hv2
            exact val_two_b s hs m hm0 w hH n hok.2 (hide hv1) h1 h48 hlt hok.1 _ (Lib.hid hR) (hide hv2)
          · rw [if_neg (by
              rintro ⟨h, h'⟩
              injection h with h
              exact hok ⟨by rw [h]; rfl, h'⟩)] at hR
            exact val_bad_b s hs m hm0 w hH n (hide hv1) h1 h48 hlt hok (Lib.hid hR)
        · rw [if_neg hlt] at hR
          exact val_some_b s hs m hm0 w hH n (hide hv1) h1 h48 hlt (Lib.hid hR)
  · rw [if_neg (by omega)] at hR
    cases o1 with
    | none => exact val_none_a s hs m hm0 w hH (hide hv1) h1 (Lib.hid hR)
    | some n =>
      have hn := hle n rfl
      simp only at hR
      by_cases hlt : m < s.size
      · rw [if_pos hlt, bs_get s m hlt] at hR
        by_cases hok : s[m].toNat = 95 ∧ 2 ≤ n ∧ n ≤ 16
        · rw [if_pos ⟨congrArg some (UInt8.toNat_inj.1 hok.1), hok.2⟩] at hR
          have hv2 := fun W => valued_any (s.extract (m + 1) s.size) n (by rw [ByteArray.size_extract]; omega) hok.2.1 hok.2.2 W
          rw [bs_drop] at hv2
          exact val_two_a s hs m hm0 w hH n hok.2 (hide hv1) h1 hlt hok.1 _ (Lib.hid hR) (hide hv2)
        · rw [if_neg (by
            rintro ⟨h, h'⟩
            injection h with h
            exact hok ⟨by rw [h]; rfl, h'⟩)] at hR
          exact val_bad_a s hs m hm0 w hH n (hide hv1) h1 hlt hok (Lib.hid hR)
      · rw [if_neg hlt] at hR
        exact val_some_a s hs m hm0 w hH n (hide hv1) h1 hlt (Lib.hid hR)
theorem refDigits_bad (n b : Int) (h : n < 0 ∨ 1000000000 < n ∨ b < 2 ∨ 16 < b) (w : World) : Calls Tryz.prog 28 #[.int .i64 n, .int .i64 b] w fun e w' => e = .returned (.tuple #[.string (mkS []), .int .i64 1]) ∧ w = w' := by
  rcases (show n < 0 ∨ (0 ≤ n ∧ 1000000000 < n) ∨ ((0 ≤ n ∧ n ≤ 1000000000) ∧ b < 2) ∨ ((0 ≤ n ∧ n ≤ 1000000000) ∧ (2 ≤ b ∧ 16 < b)) by omega) with h | ⟨h1, h⟩ | ⟨⟨h1, h2⟩, h⟩ | ⟨⟨h1, h2⟩, h3, h⟩
  all_goals
    go_enter Tryz.func28, Tryz.ntmps28
    go_wp2_with fail
    go_ret2
    exact ⟨rfl, rfl⟩
theorem refDigits_ok (n b : Nat) (hn : n ≤ 1000000000) (h1 : 2 ≤ b) (h2 : b ≤ 16) (w : World) : Calls Tryz.prog 28 #[.int .i64 n, .int .i64 b] w fun e w' => e = .returned (.tuple #[.string (mkS (digsL n b)), .int .i64 0]) ∧ ∃ m, w' = w.drewN m := by
  have H1 := hide (fun W => inBase_any b h1 h2 40 n (fit41 h1 hn) hn W)
  have H2 := hide (fun W => inBase_any 10 (by omega) (by omega) 40 b (fit41 (by omega) (by omega)) (by omega) W)
  have hn1 : ¬ ((n : Int) < 0) := by omega
  have hn2 : ¬ (1000000000 : Int) < n := by omega
  have hb1 : ¬ ((b : Int) < 2) := by omega
  have hb2 : ¬ (16 : Int) < b := by omega
  by_cases h : b = 10
  · subst h
    have HD := Lib.hid (show digsL n 10 = inBL 10 40 n from if_pos rfl)
    go_enter Tryz.func28, Tryz.ntmps28
    go_wp2_with (go_at_call 62; refine (unhide H1 _).mono ?_; rintro e w1 ⟨rfl, n1, rfl⟩)
    go_ret2
    exact ⟨ret_two (by rw [HD.out]; rfl) rfl, _, rfl⟩
  · have HD := Lib.hid (show digsL n b = inBL 10 40 b ++ 95 :: inBL b 40 n from if_neg h)
    have hb10 : ((b : Int) != 10) = true := by simp; omega
    have hl1 := inBL_len h1 (f := 40) (fit30 h1 hn)
    have hl2 := inBL_len (b := 10) (by omega) (f := 40) (fit30 (b := 10) (by omega) (show b ≤ 1000000000 by omega))
    obtain ⟨U, hU⟩ : ∃ U, inBL b 40 n = U := ⟨_, rfl⟩
    obtain ⟨D, hD'⟩ : ∃ D, inBL 10 40 b = D := ⟨_, rfl⟩
    rw [hU] at H1 HD hl1
    rw [hD'] at H2 HD hl2
    have hs1 : (mkS U).size ≤ 30 := by rw [← bs_len, bs_mkS]; exact hl1
    have hs2 : (mkS D).size ≤ 30 := by rw [← bs_len, bs_mkS]; exact hl2
    have hcat : mkS D ++ ⟨#[95]⟩ ++ mkS U = mkS (D ++ 95 :: U) := by
      rw [show (⟨#[95]⟩ : ByteArray) = mkS [95] from rfl, mkS_app, mkS_app, List.append_assoc]; rfl
    clear hU hD' hl1 hl2
    go_enter Tryz.func28, Tryz.ntmps28
    go_wp2_with fail
    refine (unhide H1 _).mono ?_
    rintro e w1 ⟨rfl, n1, rfl⟩
    go_wp2_with fail
    refine (unhide H2 _).mono ?_
    rintro e w2 ⟨rfl, n2, rfl⟩
    go_wp2_with fail
    go_ret2
    exact ⟨ret_two (by rw [HD.out]; rfl) rfl, _, rfl⟩
end Go.Proofs.YteknngncnbfbnaaGreatDoor
