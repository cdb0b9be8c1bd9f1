/- What Value returns, for every string of at most 20000 bytes; of bytealg.MaxLen only that it holds an int. -/
import Derived.Test.YteknngncnbfbnaaGreatDoorNu
import Derived.Tactics
import Derived.Tactics2
import Derived.WalkKit
import Derived.LoopTactic
import Derived.Outline
import Derived.Lib.Hide
import Derived.Handy
import Derived.KernelRfl
import Derived.Deep.LoopGhost
import Derived.CallsIn
import Derived.Deep.QuietTactic
import Derived.BigQuiet
import Derived.Deep.Draws
import Derived.WalkSpells
import Derived.Lib.Walk
import Derived.Lib.Strings
import Derived.Maps.OwnOps
import Derived.Maps.OwnSet
import Derived.Deep.RegionWith
import Derived.StillTailTactics
import Derived.WalkMore
namespace Go.Proofs.YteknngncnbfbnaaGreatDoor
open Go Go.RowKit

def optN : Option Nat → Int | none => 0 | some n => n
def optB : Option Nat → Bool | none => false | some _ => true
def vR (base : Nat) (l : List UInt8) : Option Nat := if l = [] then none else valL base 0 l
theorem valN_vR (base : Nat) (l : List UInt8) : valN base l = optN (vR base l) := by
  unfold valN vR
  split
  · rfl
  · cases valL base 0 l <;> rfl
theorem valOk_vR (base : Nat) (l : List UInt8) : valOk base l = optB (vR base l) := by
  unfold valOk vR
  split
  · rfl
  · cases valL base 0 l <;> rfl
theorem valueOf_opt (s : ByteArray) (base : Nat) (hs : s.size ≤ 9223372036854775806) (hb1 : 2 ≤ base) (hb : base ≤ 16) (w : World) :
    Calls Tryz.prog 78 #[.string s, .int .i64 base] w fun e w' => e = .returned (.tuple #[.int .i64 (optN (vR base (bs s))), .bool (optB (vR base (bs s)))]) ∧ ∃ n, w' = w.drewN n := by
  have := valueOf_any s base hs hb1 hb w
  rwa [valN_vR, valOk_vR] at this
def plainR (l : List UInt8) : Option Nat := if 1 < l.length ∧ l.head? = some 48 then none else vR 10 l
def basedR (l : List UInt8) (b : Nat) : Option Nat := if b < 2 ∨ 16 < b ∨ 30 < l.length then none else vR b l
theorem valL_le : ∀ {l : List UInt8} {b n r : Nat}, n ≤ 1000000000 → valL b n l = some r → r ≤ 1000000000
  | [], _, _, _, hn, h => by simp [valL] at h; omega
  | c :: l, b, n, r, hn, h => by
    unfold valL at h
    split at h
    · cases h
    · split at h
      · cases h
      · exact valL_le (by omega) h
theorem vR_le {l : List UInt8} {b r : Nat} (h : vR b l = some r) : r ≤ 1000000000 := by
  unfold vR at h
  split at h
  · cases h
  · exact valL_le (by omega) h

theorem plainValue_any (s : ByteArray) (hs : s.size ≤ 9223372036854775806) (w : World) :
    Calls Tryz.prog 56 #[.string s] w fun e w' => e = .returned (.tuple #[.int .i64 (optN (plainR (bs s))), .bool (optB (plainR (bs s)))]) ∧ ∃ n, w' = w.drewN n := by
  by_cases h1 : 1 < s.size
  · by_cases h2 : s[0].toNat = 48
    · have e : plainR (bs s) = none := by
        have h48 : (bs s).head? = some 48 := by
          rw [List.head?_eq_getElem?, bs_get s 0 (by omega)]
          exact congrArg some (UInt8.toNat_inj.1 h2)
        unfold plainR
        exact if_pos ⟨by rw [bs_len]; exact h1, h48⟩
      have E := Lib.hid e
      clear e
      have h3 : ((s[0].toNat : Int) == 48) = true := by rw [h2]; rfl
      clear h2
      go_enter Tryz.func56, Tryz.ntmps56
      go_wp2_with fail
      go_ret2
      exact ⟨ret_two (by rw [E.out]; rfl) (by rw [E.out]; rfl), 0, rfl⟩
    · have e : plainR (bs s) = vR 10 (bs s) := by
        unfold plainR
        rw [if_neg]
        rintro ⟨_, h⟩
        rw [List.head?_eq_getElem?, bs_get s 0 (by omega)] at h
        injection h with h
        rw [h] at h2
        exact h2 rfl
      rw [e]
      clear e
      have h3 : ((s[0].toNat : Int) == 48) = false := by simp; omega
      clear h2
      go_enter Tryz.func56, Tryz.ntmps56
      go_wp2_with (go_at_call 78; refine (valueOf_opt s 10 hs (by omega) (by omega) _).mono ?_; rintro e w' ⟨rfl, n, rfl⟩)
      go_ret2
      exact ⟨rfl, n, rfl⟩
  · have e : plainR (bs s) = vR 10 (bs s) := by
      unfold plainR
      rw [if_neg]
      rintro ⟨h, _⟩
      rw [bs_len] at h
      exact h1 h
    rw [e]
    clear e
    have h4 : s.size ≤ 1 := by omega
    go_enter Tryz.func56, Tryz.ntmps56
    go_wp2_with (go_at_call 78; refine (valueOf_opt s 10 hs (by omega) (by omega) _).mono ?_; rintro e w' ⟨rfl, n, rfl⟩)
    go_ret2
    exact ⟨rfl, n, rfl⟩
theorem basedValue_any (s : ByteArray) (b : Nat) (hs : s.size ≤ 9223372036854775806) (w : World) :
    Calls Tryz.prog 57 #[.string s, .int .i64 b] w fun e w' => e = .returned (.tuple #[.int .i64 (optN (basedR (bs s) b)), .bool (optB (basedR (bs s) b))]) ∧ ∃ n, w' = w.drewN n := by
  rcases (show b < 2 ∨ 16 < b ∨ (2 ≤ b ∧ b ≤ 16 ∧ 30 < s.size) ∨ (2 ≤ b ∧ b ≤ 16 ∧ s.size ≤ 30) by omega) with h | h | ⟨h, h', h''⟩ | ⟨h, h', h''⟩
  case inr.inr.inr =>
    have e : basedR (bs s) b = vR b (bs s) := by
      unfold basedR
      rw [if_neg (by rw [bs_len]; omega)]
    rw [e]
    clear e
    go_enter Tryz.func57, Tryz.ntmps57
    go_wp2_with (go_at_call 78; refine (valueOf_opt s b hs h h' _).mono ?_; rintro e w' ⟨rfl, n, rfl⟩)
    go_ret2
    exact ⟨rfl, n, rfl⟩
  all_goals
    have e : basedR (bs s) b = none := by
      unfold basedR
      rw [if_pos (by rw [bs_len]; omega)]
    have E := Lib.hid e
    clear e
    go_enter Tryz.func57, Tryz.ntmps57
    go_wp2_with fail
    go_ret2
    exact ⟨ret_two (by rw [E.out]; rfl) (by rw [E.out]; rfl), 0, rfl⟩

/-- The value of a number; none: it is none. -/
def valR (l : List UInt8) : Option Nat :=
  match plainR (Lib.cut l [95]).1 with
  | none => none
  | some n => if (Lib.cut l [95]).2.2 then basedR (Lib.cut l [95]).2.1 n else some n
def errN : Option Nat → Int | none => 11 | some _ => 0
theorem value_any (s : ByteArray) (hs : s.size ≤ 20000) (w : World) (hE : Env w) :
    Calls Tryz.prog 25 #[.string s] w fun e w' => e = .returned (.tuple #[.int .i64 (optN (valR (bs s))), .int .i64 (errN (valR (bs s)))]) ∧ ∃ n, w' = w.drewN n := by
  obtain ⟨m, hm⟩ := hE.mx
  have hc := Tryz.strings_Cut s ⟨#[95]⟩ m w (by omega) hm
  obtain ⟨p, hp⟩ : ∃ p, Lib.cut s.data.toList (ByteArray.mk #[95]).data.toList = p := ⟨_, rfl⟩
  have hpl : p.1.length ≤ 20000 ∧ p.2.1.length ≤ 20000 := by
    rw [← hp]; unfold Lib.cut; split <;> simp <;> try omega
  rw [hp] at hc
  have hv : valR (bs s) = match plainR p.1 with | none => none | some n => if p.2.2 then basedR p.2.1 n else some n := by
    rw [← hp]; rfl
  obtain ⟨h, t, d⟩ := p
  simp only at hpl hv hc
  clear hp hm
  have hh : bs (mkS h) = h := bs_mkS h
  have ht : bs (mkS t) = t := bs_mkS t
  have hhs : (mkS h).size ≤ 20000 := by rw [← bs_len, hh]; exact hpl.1
  have hts : (mkS t).size ≤ 20000 := by rw [← bs_len, ht]; exact hpl.2
  have c1 := plainValue_any (mkS h) (by omega)
  rw [hh] at c1
  have c2 := fun n => basedValue_any (mkS t) n (by omega)
  rw [ht] at c2
  have HT := Lib.hid ht
  have HV := Lib.hid hv
  clear hh ht hv
  have C := hide hc
  clear hc
  cases hpr : plainR h with
  | none =>
    rw [hpr] at c1
    simp only [optN, optB] at c1
    have C1 := hide c1
    have HP := Lib.hid hpr
    clear c1 hpr c2
    have hvn : Hid (valR (bs s) = none) := by have := HV.out; rw [HP.out] at this; exact this
    clear HV HP
    go_enter Tryz.func25, Tryz.ntmps25
    go_wp2_with (first | (go_at_call 55; refine (unhide C).mono ?_; rintro e w1 ⟨rfl, n1, rfl⟩) | (go_at_call 56; refine (unhide C1 _).mono ?_; rintro e w2 ⟨rfl, n2, rfl⟩))
    go_ret2
    exact ⟨ret_two (by rw [hvn.out]; rfl) (by rw [hvn.out]; rfl), _, rfl⟩
  | some n =>
    rw [hpr] at c1
    simp only [optN, optB] at c1
    have C1 := hide c1
    have C2 := hide (c2 n)
    have HP := Lib.hid hpr
    clear c1 hpr c2
    have hvn : Hid (valR (bs s) = if d then basedR t n else some n) := by have := HV.out; rw [HP.out] at this; exact this
    clear HV HP
    cases d with
    | false =>
      go_enter Tryz.func25, Tryz.ntmps25
      go_wp2_with (first | (go_at_call 55; refine (unhide C).mono ?_; rintro e w1 ⟨rfl, n1, rfl⟩) | (go_at_call 56; refine (unhide C1 _).mono ?_; rintro e w2 ⟨rfl, n2, rfl⟩))
      go_ret2
      exact ⟨ret_two (by rw [hvn.out]; rfl) (by rw [hvn.out]; rfl), _, rfl⟩
    | true =>
      have c2 := unhide C2
      clear C2
      cases hb : basedR t n with
      | none =>
        rw [hb] at c2
        simp only [optN, optB] at c2
        have C2 := hide c2
        have HB : Hid (valR (bs s) = none) := by have := hvn.out; rw [hb] at this; exact this
        clear hvn hb c2
        go_enter Tryz.func25, Tryz.ntmps25
        go_wp2_with (first | (go_at_call 55; refine (unhide C).mono ?_; rintro e w1 ⟨rfl, n1, rfl⟩) | (go_at_call 56; refine (unhide C1 _).mono ?_; rintro e w2 ⟨rfl, n2, rfl⟩) | (go_at_call 57; refine (unhide C2 _).mono ?_; rintro e w3 ⟨rfl, n3, rfl⟩))
        go_ret2
        exact ⟨ret_two (by rw [HB.out]; rfl) (by rw [HB.out]; rfl), _, rfl⟩
      | some r =>
        rw [hb] at c2
        simp only [optN, optB] at c2
        have C2 := hide c2
        have HB : Hid (valR (bs s) = some r) := by have := hvn.out; rw [hb] at this; exact this
        clear hvn hb c2
        go_enter Tryz.func25, Tryz.ntmps25
        go_wp2_with (first | (go_at_call 55; refine (unhide C).mono ?_; rintro e w1 ⟨rfl, n1, rfl⟩) | (go_at_call 56; refine (unhide C1 _).mono ?_; rintro e w2 ⟨rfl, n2, rfl⟩) | (go_at_call 57; refine (unhide C2 _).mono ?_; rintro e w3 ⟨rfl, n3, rfl⟩))
        go_ret2
        exact ⟨ret_two (by rw [HB.out]; rfl) (by rw [HB.out]; rfl), _, rfl⟩
end Go.Proofs.YteknngncnbfbnaaGreatDoor
