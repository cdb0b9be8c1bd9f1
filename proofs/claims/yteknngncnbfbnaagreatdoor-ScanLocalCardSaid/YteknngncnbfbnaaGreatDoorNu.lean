/- The value of digits in a base. -/
import Derived.Test.YteknngncnbfbnaaGreatDoorCo
import Derived.Tactics
import Derived.Tactics2
import Derived.WalkKit
import Derived.LoopTactic
import Derived.Outline
import Derived.Lib.Hide
import Derived.Handy
import Derived.KernelRfl
import Derived.Deep.LoopGhost
import Derived.CallsIn
import Derived.Deep.QuietTactic
import Derived.BigQuiet
import Derived.Deep.Draws
import Derived.WalkSpells
import Derived.Lib.Walk
import Derived.Lib.Strings
import Derived.Maps.OwnOps
import Derived.Maps.OwnSet
import Derived.Deep.RegionWith
import Derived.StillTailTactics
import Derived.WalkMore
namespace Go.Proofs.YteknngncnbfbnaaGreatDoor
open Go Go.RowKit

def hexStr : ByteArray := ⟨#[48, 49, 50, 51, 52, 53, 54, 55, 56, 57, 65, 66, 67, 68, 69, 70]⟩
def hexv (c : UInt8) : Option Nat := if 48 ≤ c.toNat ∧ c.toNat ≤ 57 then some (c.toNat - 48) else if 65 ≤ c.toNat ∧ c.toNat ≤ 70 then some (c.toNat - 55) else none
/-- A digit of the base, as an index; -1: it is none. -/
def digI (base : Nat) (c : UInt8) : Int := match hexv c with | some d => if d < base then d else -1 | none => -1
theorem digI_all : ((List.range 17).all fun b => (List.range 256).all fun c => decide (Lib.indexByte ((bs hexStr).take b) (UInt8.ofNat c) = digI b (UInt8.ofNat c))) = true := by kernel_rfl
theorem digI_eq (b : Nat) (hb : b ≤ 16) (c : UInt8) : Lib.indexByte ((bs hexStr).take b) c = digI b c := by
  have h1 := List.all_eq_true.1 digI_all b (List.mem_range.2 (by omega))
  have h2 := of_decide_eq_true (List.all_eq_true.1 h1 c.toNat (List.mem_range.2 c.toNat_lt))
  have e : UInt8.ofNat c.toNat = c := by simp
  rwa [e] at h2
theorem digI_lt (b : Nat) (c : UInt8) : digI b c < b ∧ -1 ≤ digI b c := by
  unfold digI
  split
  · split <;> omega
  · omega
theorem indexHex (b : Nat) (hb : b ≤ 16) (c : UInt8) (w : World) : Calls Tryz.prog 97 #[.string (hexStr.extract 0 b), .int .u8 c.toNat] w fun e w' => e = .returned (.int .i64 (digI b c)) ∧ w = w' :=
  (Tryz.strings_IndexByte (hexStr.extract 0 b) c.toNat w).mono fun e _ ⟨he, hw⟩ => ⟨by
    rw [he]
    have : (hexStr.extract 0 b).data.toList = (bs hexStr).take b := bs_take _ _
    rw [this]
    have e2 : ((c.toNat : Int).toNat).toUInt8 = c := by simp
    rw [e2, digI_eq b hb c], hw.symm⟩

/-- The value of digits in a base, n ahead of them; none: one is none, or they are too great. -/
def valL (base : Nat) : Nat → List UInt8 → Option Nat
  | n, [] => some n
  | n, c :: l => if digI base c < 0 then none else if 1000000000 < n * base + (digI base c).toNat then none else valL base (n * base + (digI base c).toNat) l
def valN (base : Nat) (l : List UInt8) : Int := if l = [] then 0 else match valL base 0 l with | none => 0 | some n => n
def valOk (base : Nat) (l : List UInt8) : Bool := if l = [] then false else (valL base 0 l).isSome

theorem ret_two {a a' b b' : Value} (h : a = a') (k : b = b') : Ending.returned (.tuple #[a, b]) = .returned (.tuple #[a', b']) := by rw [h, k]
theorem valL_at {base n : Nat} {s : ByteArray} {k : Nat} (h : k < s.size) : valL base n ((bs s).drop k) = if digI base s[k] < 0 then none else if 1000000000 < n * base + (digI base s[k]).toNat then none else valL base (n * base + (digI base s[k]).toNat) ((bs s).drop (k + 1)) := by
  rw [bs_at s k h]; rfl
theorem valN_none {base : Nat} {l : List UInt8} (h : valL base 0 l = none) : valN base l = 0 := by
  unfold valN; split
  · rfl
  · rw [h]
theorem valOk_none {base : Nat} {l : List UInt8} (h : valL base 0 l = none) : valOk base l = false := by
  unfold valOk; split
  · rfl
  · rw [h]; rfl

theorem run_hexTo (base : Nat) (hb : base ≤ 16) (w : World) : (Instr.slice 9 (.string ⟨#[48, 49, 50, 51, 52, 53, 54, 55, 56, 57, 65, 66, 67, 68, 69, 70]⟩) none (some (.int .i64 (base : Int))) none).run Tryz.prog w = .ok (.string (hexStr.extract 0 base)) w := by
  have h16 : hexStr.size = 16 := by kernel_rfl
  have := run_slice_string_h (P := Tryz.prog) (w := w) (t := 9) (s := hexStr) Tryz.underlying9 .i64 (base : Int) (by omega) (by rw [h16]; omega)
  have e : ((base : Int)).toNat = base := by simp
  rw [e] at this
  exact this
set_option maxHeartbeats 1600000 in
theorem valueOf_any (s : ByteArray) (base : Nat) (hs : s.size ≤ 9223372036854775806) (hb1 : 2 ≤ base) (hb : base ≤ 16) (w : World) :
    Calls Tryz.prog 78 #[.string s, .int .i64 base] w fun e w' => e = .returned (.tuple #[.int .i64 (valN base (bs s)), .bool (valOk base (bs s))]) ∧ ∃ n, w' = w.drewN n := by
  have hsl := run_hexTo base hb
  go_enter Tryz.func78, Tryz.ntmps78
  go_wp2
  go_loopw [6, 11] (fun v i wr => ∃ k n : Nat, k ≤ s.size ∧ i = .int .i64 k ∧ v = .int .i64 n ∧ n ≤ 1000000000 ∧ Hid (valL base n ((bs s).drop k) = valL base 0 (bs s)) ∧ Hid (∃ m, wr = w.drewN m)) (fun _ i _ => s.size - (intOf i).toNat)
  case atStart => exact ⟨0, 0, Nat.zero_le _, rfl, rfl, by omega, Lib.hid rfl, Lib.hid ⟨0, rfl⟩⟩
  case round =>
    obtain ⟨k, n, hk, rfl, rfl, hn, HV, HW⟩ := hrel
    by_cases hlt : k < s.size
    · have HA := Lib.hid (valL_at (base := base) (n := n) hlt)
      have hdl := digI_lt base s[k]
      by_cases hd : digI base s[k] < 0
      · go_wp2
        go_quiet ((go_at_call 97; exact quiet_left (indexHex base hb s[k] _)))
        go_wp2
        go_ret2
        have hv : valL base 0 (bs s) = none := by rw [← HV.out, HA.out, if_pos hd]
        refine ⟨ret_two (by rw [valN_none hv]; rfl) (by rw [valOk_none hv]; rfl), ?_⟩
        obtain ⟨m, rfl⟩ := HW.out
        exact ⟨_, World.drewN_drewN _ _ _⟩
      · obtain ⟨d, hdd⟩ : ∃ d : Nat, digI base s[k] = d := ⟨(digI base s[k]).toNat, by omega⟩
        have hc := indexHex base hb s[k]
        rw [hdd] at hc hdl hd
        have HD := Lib.hid hdd
        have HC := hide hc
        clear hdd hc
        have hm : n * base ≤ 16000000000 := Nat.mul_le_mul hn hb
        have hm1 : (n : Int) * base ≤ 16000000000 := by rw [← Int.natCast_mul]; omega
        have hm0 : 0 ≤ (n : Int) * base := by rw [← Int.natCast_mul]; omega
        by_cases hg : 1000000000 < n * base + d
        · have hg' : (1000000000 : Int) < (n : Int) * base + d := by rw [← Int.natCast_mul]; omega
          go_wp2
          go_quiet ((go_at_call 97; exact quiet_left (unhide HC _)))
          go_wp2
          go_ret2
          have hv : valL base 0 (bs s) = none := by rw [← HV.out, HA.out, HD.out, if_neg (by omega), if_pos (by rw [Int.toNat_natCast]; exact hg)]
          refine ⟨ret_two (by rw [valN_none hv]; rfl) (by rw [valOk_none hv]; rfl), ?_⟩
          obtain ⟨m, rfl⟩ := HW.out
          exact ⟨_, World.drewN_drewN _ _ _⟩
        · have hg' : (n : Int) * base + d ≤ 1000000000 := by rw [← Int.natCast_mul]; omega
          go_wp2
          go_quiet ((go_at_call 97; exact quiet_left (unhide HC _)))
          go_wp2
          go_roundw
          case rel =>
            refine ⟨k + 1, n * base + d, by omega, by go_num, by simp, by omega, Lib.hid ?_, Lib.hid ?_⟩
            · rw [← HV.out, HA.out, HD.out, if_neg (by omega), if_neg (by rw [Int.toNat_natCast]; exact hg), Int.toNat_natCast]
            · obtain ⟨m, rfl⟩ := HW.out
              exact ⟨_, World.drewN_drewN _ _ _⟩
          case measure => simp [intOf]; omega
    · obtain rfl : k = s.size := by omega
      have HF : Hid (valL base 0 (bs s) = some n) := by
        rw [← HV.out, List.drop_eq_nil_of_le (by rw [bs_len]; exact Nat.le_refl _)]; rfl
      by_cases he : bs s = []
      · have hz : s.toList = [] := by rw [toList_bs]; exact he
        have HE := Lib.hid he
        clear he
        go_wp2
        go_ret2
        have e0 : n = 0 := by have := HF.out; rw [HE.out] at this; simpa [valL] using this.symm
        refine ⟨ret_two (by rw [HE.out, e0]; rfl) (by rw [HE.out]; rfl), HW.out⟩
      · have hz : s.toList.isEmpty = false := by rw [toList_bs]; simpa using he
        have HE := Lib.hid he
        clear he
        go_wp2
        go_ret2
        refine ⟨ret_two ?_ ?_, HW.out⟩
        · show Value.int .i64 n = _
          unfold valN
          rw [if_neg HE.out, HF.out]
        · unfold valOk
          rw [if_neg HE.out, HF.out]
          simp
end Go.Proofs.YteknngncnbfbnaaGreatDoor
