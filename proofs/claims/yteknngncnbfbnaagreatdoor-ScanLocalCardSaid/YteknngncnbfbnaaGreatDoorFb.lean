/- strconv's digits to a base that is a power of two. -/
import Derived.Test.YteknngncnbfbnaaGreatDoorBw
import Derived.RangeFuncNested
import Derived.RangeFuncBound
import Derived.RangeFuncCalls
import Derived.RangeFuncLeaves
import Derived.RangeFuncBox
import Derived.Shelf.Abstract
import Derived.WalkKit
import Derived.OwnWalkIn
import Derived.TacticsInMore
import Derived.LoopNIn
import Derived.LoopIn
import Derived.RecoverIn
import Derived.Maps.AppendAt
import Derived.Outline
import Derived.Handy
import Derived.Deep.LoopGhost
import Derived.RegionTactic
import Derived.ChangeAlike
import Derived.Deep.QuietTactic
import Derived.BigQuiet
import Derived.StillTailTactics
import Derived.Deep.RegionWith
import Derived.LoopTactic
import Derived.OwnWalk
import Derived.Deep.AppendLies
import Derived.Deep.DeepCutAuto
import Derived.KernelRfl
import Derived.KernelRfl
import Derived.Laws.IdiomStrings
namespace Go.Proofs.YteknngncnbfbnaaGreatDoor
open Go Go.RowKit Go.Shelf
/-- WHAT THE LIBRARY READS OF ITS TABLE OF ZEROS (for 2, 4, 8 and 16). -/
structure Db (w : World) : Prop where
  c1 : w.cell? ⟨8, 1, none⟩ = some (.int .u8 1)
  c3 : w.cell? ⟨8, 3, none⟩ = some (.int .u8 2)
  c7 : w.cell? ⟨8, 7, none⟩ = some (.int .u8 3)
  c15 : w.cell? ⟨8, 15, none⟩ = some (.int .u8 4)
theorem zeros64_at (b nb q e : Int) (i : Nat) (w : World) (hb : (b == 0) = false) (h1 : IntKind.u64.wrap (-b) = nb) (h2 : bits BinOp.and .u64 b nb = b) (h3 : IntKind.u64.wrap (b * 285870213051353865) = q)
    (h4 : q / 288230376151711744 = i) (hi : i < 64) (he : 0 ≤ e ∧ e < 100) (hc : w.cell? ⟨8, i, none⟩ = some (.int .u8 e)) : Calls Tryz.prog 141 #[.int .u64 b] w fun r w' => r = .returned (.int .i64 e) ∧ w = w' := by
  go_enter Tryz.func141, Tryz.ntmps141
  go_wp2
  go_ret
  exact ⟨rfl, rfl⟩
theorem zeros_at (b nb q e : Int) (i : Nat) (w : World) (hb : (b == 0) = false) (h1 : IntKind.u64.wrap (-b) = nb) (h2 : bits BinOp.and .u64 b nb = b) (h3 : IntKind.u64.wrap (b * 285870213051353865) = q)
    (h4 : q / 288230376151711744 = i) (hi : i < 64) (he : 0 ≤ e ∧ e < 100) (hc : w.cell? ⟨8, i, none⟩ = some (.int .u8 e)) : Calls Tryz.prog 127 #[.int .u64 b] w fun r w' => r = .returned (.int .i64 e) ∧ w = w' := by
  have h := zeros64_at b nb q e i w hb h1 h2 h3 h4 hi he hc
  go_enter Tryz.func127, Tryz.ntmps127
  go_wp2_with (go_at_call 141; refine h.mono ?_; rintro e' w' ⟨rfl, rfl⟩)
  go_ret
  exact ⟨rfl, rfl⟩
/-- The bases that are powers of two, and their exponents. -/
def powB (b e : Nat) : Prop := (b = 2 ∧ e = 1) ∨ (b = 4 ∧ e = 2) ∨ (b = 8 ∧ e = 3) ∨ (b = 16 ∧ e = 4)
theorem zeros_any {b e : Nat} (h : powB b e) (w : World) (hD : Db w) : Calls Tryz.prog 127 #[.int .u64 b] w fun r w' => r = .returned (.int .i64 e) ∧ w = w' := by
  rcases h with ⟨rfl, rfl⟩ | ⟨rfl, rfl⟩ | ⟨rfl, rfl⟩ | ⟨rfl, rfl⟩
  · exact zeros_at 2 _ _ 1 1 w (by decide) rfl (by kernel_rfl) rfl (by kernel_rfl) (by decide) (by decide) hD.c1
  · exact zeros_at 4 _ _ 2 3 w (by decide) rfl (by kernel_rfl) rfl (by kernel_rfl) (by decide) (by decide) hD.c3
  · exact zeros_at 8 _ _ 3 7 w (by decide) rfl (by kernel_rfl) rfl (by kernel_rfl) (by decide) (by decide) hD.c7
  · exact zeros_at 16 _ _ 4 15 w (by decide) rfl (by kernel_rfl) rfl (by kernel_rfl) (by decide) (by decide) hD.c15
theorem pow_yes (b nb : Int) (w : World) (hb : 2 ≤ b ∧ b ≤ 16) (h1 : b - 1 = nb) (h2 : bits BinOp.and .i64 b nb = 0) : Calls Tryz.prog 126 #[.int .i64 b] w fun r w' => r = .returned (.bool true) ∧ w = w' := by
  go_enter Tryz.func126, Tryz.ntmps126
  go_wp2
  go_ret
  exact ⟨rfl, rfl⟩
theorem pow_no (b nb r : Int) (w : World) (hb : 2 ≤ b ∧ b ≤ 16) (h1 : b - 1 = nb) (h2 : bits BinOp.and .i64 b nb = r) (h3 : (r == 0) = false) : Calls Tryz.prog 126 #[.int .i64 b] w fun r w' => r = .returned (.bool false) ∧ w = w' := by
  go_enter Tryz.func126, Tryz.ntmps126
  go_wp2
  go_ret
  exact ⟨rfl, rfl⟩
theorem pow_any {b e : Nat} (h : powB b e) (w : World) : Calls Tryz.prog 126 #[.int .i64 b] w fun r w' => r = .returned (.bool true) ∧ w = w' := by
  rcases h with ⟨rfl, rfl⟩ | ⟨rfl, rfl⟩ | ⟨rfl, rfl⟩ | ⟨rfl, rfl⟩
  all_goals exact pow_yes _ _ w (by decide) rfl (by kernel_rfl)
def oddB (b : Nat) : Prop := b = 3 ∨ b = 5 ∨ b = 6 ∨ b = 7 ∨ b = 9 ∨ b = 11 ∨ b = 12 ∨ b = 13 ∨ b = 14 ∨ b = 15
theorem pow_not {b : Nat} (h : oddB b) (w : World) : Calls Tryz.prog 126 #[.int .i64 b] w fun r w' => r = .returned (.bool false) ∧ w = w' := by
  rcases h with rfl | rfl | rfl | rfl | rfl | rfl | rfl | rfl | rfl | rfl
  all_goals exact pow_no _ _ _ w (by decide) rfl rfl (by kernel_rfl)
def dgt (d : Nat) : UInt8 := if d < 10 then UInt8.ofNat (48 + d) else UInt8.ofNat (87 + d)
/-- The digits of a number to a base (the first argument but one bounds how many). -/
def digL (b : Nat) : Nat → Nat → List UInt8
  | 0, n => [dgt n]
  | f + 1, n => if n < b then [dgt n] else digL b f (n / b) ++ [dgt (n % b)]
theorem digL_last {b f n : Nat} (h : n < b) : digL b f n = [dgt n] := by
  cases f with
  | zero => rfl
  | succ f => unfold digL; rw [if_pos h]
theorem digL_more {b f n : Nat} (h : ¬ n < b) : digL b (f + 1) n = digL b f (n / b) ++ [dgt (n % b)] := by
  conv => lhs; unfold digL
  rw [if_neg h]
def z8 : Value := .int .u8 0
def rowL (out : List UInt8) : List Value := List.replicate (65 - out.length) z8 ++ out.map fun c => .int .u8 (c.toNat : Int)
theorem zeros158 : Tryz.zeroCells158 = (rowL []).toArray := by kernel_rfl
theorem rowL_len {out : List UInt8} (h : out.length ≤ 65) : (rowL out).length = 65 := by unfold rowL; simp; omega
theorem rowL_cons {out : List UInt8} (h : out.length < 65) (c : UInt8) : (rowL out).set (64 - out.length) (.int .u8 (c.toNat : Int)) = rowL (c :: out) := by
  unfold rowL
  rw [List.length_cons, show 65 - out.length = (64 - out.length) + 1 by omega, show 65 - (out.length + 1) = 64 - out.length by omega, List.replicate_succ', List.append_assoc, List.set_append_right _ _ (by simp)]
  simp
theorem rowL_at {out : List UInt8} (_h : out.length ≤ 65) (j : Nat) (hj : j < out.length) : (rowL out)[65 - out.length + j]? = some (.int .u8 (out[j].toNat : Int)) := by
  unfold rowL
  rw [List.getElem?_append_right (by simp)]
  simp [hj]
theorem and_mask {b e : Nat} (hp : powB b e) (u : Nat) (hu : u ≤ 1000000000) : bits BinOp.and .u64 (u : Int) ((b : Int) - 1) = ((u % b : Nat) : Int) := by
  have h : ∀ m : Nat, m < 18446744073709551616 → bits BinOp.and .u64 (u : Int) (m : Int) = ((u &&& m : Nat) : Int) := fun m hm => u64_and_nat u m (by omega) hm
  rcases hp with ⟨rfl, _⟩ | ⟨rfl, _⟩ | ⟨rfl, _⟩ | ⟨rfl, _⟩
  · exact (h 1 (by decide)).trans (congrArg _ (Nat.and_two_pow_sub_one_eq_mod u 1))
  · exact (h 3 (by decide)).trans (congrArg _ (Nat.and_two_pow_sub_one_eq_mod u 2))
  · exact (h 7 (by decide)).trans (congrArg _ (Nat.and_two_pow_sub_one_eq_mod u 3))
  · exact (h 15 (by decide)).trans (congrArg _ (Nat.and_two_pow_sub_one_eq_mod u 4))
def digStr : ByteArray := ⟨#[48, 49, 50, 51, 52, 53, 54, 55, 56, 57, 97, 98, 99, 100, 101, 102, 103, 104, 105, 106, 107, 108, 109, 110, 111, 112, 113, 114, 115, 116, 117, 118, 119, 120, 121, 122]⟩
theorem digStr_fin : ∀ d : Fin 16, digStr[d.val]'(Nat.lt_trans d.isLt (by decide)) = dgt d.val := by decide
theorem digStr_at (d : Nat) (h : d < 16) (h' : d < digStr.size) : digStr[d] = dgt d := digStr_fin ⟨d, h⟩
theorem slice158 (N q : Nat) (hq : q < 65) (W : World) : (Instr.sliceAt 158 (.pointer (some ⟨N, 0, none⟩)) (some (.int .i64 q)) none none).run Tryz.prog W = .ok (.slice (some ⟨N, q, none⟩) (65 - q) (65 - q)) W := by
  have hu : Tryz.prog.underlying 158 = some (.array (Tryz.prog.arrayLen 158) (Tryz.prog.elem 158)) := by kernel_rfl
  have hl : Tryz.prog.arrayLen 158 = 65 := by kernel_rfl
  have he : Tryz.prog.elem 158 = 5 := by kernel_rfl
  rw [run_sliceAt_array_l W 158 ⟨N, 0, none⟩ hu .i64 q (by omega) (by rw [hl]; omega), hl, he, Tryz.sizeOf5 W]
  simp only [Result.andThen, slicedAt]
  rw [if_neg (by omega)]
  simp [add_zero_addr]
theorem addr_add (N q j : Nat) : (⟨N, q, none⟩ : Addr).add j = ⟨N, q + j, none⟩ := by unfold Addr.add; split <;> simp_all
theorem pow_of {b e : Nat} (h : powB b e) : b = 2 ^ e := by rcases h with ⟨rfl, rfl⟩ | ⟨rfl, rfl⟩ | ⟨rfl, rfl⟩ | ⟨rfl, rfl⟩ <;> rfl
theorem Db.below {B : Nat} {w w' : World} (h : Db w) (hb : Below B w w') (hB : 9 ≤ B) : Db w' := by
  have k : ∀ i, w'.cell? ⟨8, i, none⟩ = w.cell? ⟨8, i, none⟩ := fun i => by unfold World.cell?; rw [hb.block 8 (by omega)]
  exact ⟨(k _).trans h.c1, (k _).trans h.c3, (k _).trans h.c7, (k _).trans h.c15⟩
set_option maxRecDepth 100000 in
set_option maxHeartbeats 2000000 in
theorem bits_pow {b e : Nat} (hp : powB b e) (n : Nat) (hn : n ≤ 1000000000) (w : World) (hD : Db w) (hE : 10 ≤ w.heap.size) : Calls Tryz.prog 107 #[.slice none 0 0, .int .u64 n, .int .i64 b, .bool false, .bool false] w fun r w' => r = .returned (.tuple #[.slice none 0 0, .string (mkS (digL b 40 n))]) ∧ Below w.heap.size w w' := by
  have hb : 2 ≤ b ∧ b ≤ 16 ∧ b ≠ 10 := by rcases hp with ⟨rfl, _⟩ | ⟨rfl, _⟩ | ⟨rfl, _⟩ | ⟨rfl, _⟩ <;> decide
  have HP := hide (fun W => pow_any hp W)
  have hD1 : Db (w.alloc (.cells Tryz.zeroCells158 158)) := hD.below ((Below.refl w.heap.size w).alloc (Nat.le_refl _) _) (by omega)
  have HZ := hide (zeros_any hp _ hD1)
  have e1 : ((b : Int) == 10) = false := by simp; omega
  have hB0 : Below w.heap.size w (w.alloc (.cells Tryz.zeroCells158 158)) := (Below.refl w.heap.size w).alloc (Nat.le_refl _) _
  have hR0 : Blk (w.alloc (.cells Tryz.zeroCells158 158)) w.heap.size (rowL []) 158 := by rw [zeros158]; exact Blk.new w (rowL []) 158
  have he : 1 ≤ e ∧ e ≤ 4 := by rcases hp with ⟨_, rfl⟩ | ⟨_, rfl⟩ | ⟨_, rfl⟩ | ⟨_, rfl⟩ <;> decide
  clear hD1
  go_enter Tryz.func107, Tryz.ntmps107
  go_wp2_with (first | (go_at_call 126; refine (unhide HP _).mono ?_; rintro r w' ⟨rfl, rfl⟩) | (go_at_call 127; refine (unhide HZ).mono ?_; rintro r w' ⟨rfl, rfl⟩))
  clear HP HZ
  generalize w.alloc (.cells Tryz.zeroCells158 158) = W1 at hB0 hR0 ⊢
  obtain ⟨N, hN⟩ : ∃ N, w.heap.size = N := ⟨_, rfl⟩
  rw [hN] at hB0 hR0 hE ⊢
  go_loopw [1, 13] (fun u i wr => ∃ (v : Nat) (p : Nat) (out : List UInt8), u = .int .u64 v ∧ i = .int .i64 p ∧ p + out.length = 65 ∧ out.length ≤ 30 ∧ v * 2 ^ out.length ≤ n ∧ digL b 40 n = digL b (40 - out.length) v ++ out ∧ Blk wr N (rowL out) 158 ∧ Below N w wr) (fun u _ _ => (intOf u).toNat)
  case atStart => exact ⟨n, 65, [], rfl, rfl, rfl, by simp, by simp, by simp, hR0, hB0⟩
  case round =>
    obtain ⟨v, p, out, rfl, rfl, hpo, ho30, hv, hd, hr, hbl⟩ := hrel
    obtain ⟨q, rfl⟩ : ∃ q, p = q + 1 := ⟨p - 1, by omega⟩
    have hcq : wr.cell? ⟨N, q, none⟩ = some (.int .u8 0) := by
      rw [hr.cell q]; unfold rowL
      rw [List.getElem?_append_left (by simp; omega)]
      simp [List.getElem?_replicate, z8]; omega
    have hzq := hr.frozen q
    by_cases hvb : v < b
    · have hvb' : ¬ ((b : Int) ≤ v) := by omega
      have h36 : v < 36 := by omega
      have hsl := fun W => slice158 N q (by omega) W
      have hd1 := hd
      rw [digL_last hvb] at hd1
      have HD := Lib.hid hd1
      have hR := hr.set q (.int .u8 ((dgt v).toNat : Int))
      have eq : q = 64 - out.length := by omega
      have hRr : Blk (wr.setCell ⟨N, q, none⟩ (.int .u8 ((dgt v).toNat : Int))) N (rowL (dgt v :: out)) 158 := by
        rw [← rowL_cons (by omega), ← eq]; exact hR
      have hlen : (dgt v :: out).length = 65 - q := by simp; omega
      have hcv := run_convert_bytes_back (P := Tryz.prog) (wr.setCell ⟨N, q, none⟩ (.int .u8 ((dgt v).toNat : Int))) 86 9 5 ⟨N, q, none⟩ (65 - q) (dgt v :: out) Tryz.underlying86 Tryz.underlying5 Tryz.underlying9 (fun j hj => by
        have h1 := hRr.cell (q + j)
        have h2 := rowL_at (out := dgt v :: out) (by simp; omega) j hj
        rw [show 65 - (dgt v :: out).length + j = q + j by rw [hlen]; omega] at h2
        rw [addr_add]
        exact h1.trans h2)
      rw [hlen] at hcv
      have hdv : ∀ h', @getElem ByteArray Nat UInt8 _ _ (⟨#[48, 49, 50, 51, 52, 53, 54, 55, 56, 57, 97, 98, 99, 100, 101, 102, 103, 104, 105, 106, 107, 108, 109, 110, 111, 112, 113, 114, 115, 116, 117, 118, 119, 120, 121, 122]⟩ : ByteArray) v h' = dgt v := fun h' => digStr_at v (by omega) h'
      clear hr hR hRr hd hd1 eq hlen hv
      go_wp2
      go_ret2
      exact ⟨ret_two rfl (by rw [HD.out]; rfl), hbl.setCell (Nat.le_refl _) _⟩
    · have hv2 : 2 ^ out.length ≤ 500000000 := by
        have : 2 * 2 ^ out.length ≤ v * 2 ^ out.length := Nat.mul_le_mul_right _ (by omega)
        omega
      have hol : out.length < 29 := by
        rcases Nat.lt_or_ge out.length 29 with h | h
        · exact h
        · have := Nat.pow_le_pow_right (show 0 < 2 by decide) h
          omega
      have hvn : v ≤ 1000000000 := by
        have : v * 1 ≤ v * 2 ^ out.length := Nat.mul_le_mul_left _ (Nat.one_le_two_pow)
        omega
      have hm := and_mask hp v hvn
      have hlt := Nat.mod_lt v (show 0 < b by omega)
      have hmore := digL_more (f := 39 - out.length) hvb
      rw [show 39 - out.length + 1 = 40 - out.length by omega] at hmore
      rw [hmore] at hd
      have hle : v / b * 2 ^ (out.length + 1) ≤ n := by
        have h1 : v / b * 2 ≤ v := by
          have h2 := Nat.div_mul_le_self v b
          have h3 : v / b * 2 ≤ v / b * b := Nat.mul_le_mul_left _ hb.1
          omega
        have h4 : v / b * 2 * 2 ^ out.length ≤ v * 2 ^ out.length := Nat.mul_le_mul_right _ h1
        rw [Nat.pow_succ, Nat.mul_comm (2 ^ out.length) 2, ← Nat.mul_assoc]
        omega
      have hdec : v / b < v := Nat.div_lt_self (by omega) (by omega)
      have HBE := Lib.hid (pow_of hp)
      have hR := hr.set q (.int .u8 ((dgt (v % b)).toNat : Int))
      have eq : q = 64 - out.length := by omega
      have hRr : Blk (wr.setCell ⟨N, q, none⟩ (.int .u8 ((dgt (v % b)).toNat : Int))) N (rowL (dgt (v % b) :: out)) 158 := by
        rw [← rowL_cons (by omega), ← eq]; exact hR
      have HR := Lib.hid hRr
      have HD := Lib.hid hd
      have hdv : ∀ h', @getElem ByteArray Nat UInt8 _ _ (⟨#[48, 49, 50, 51, 52, 53, 54, 55, 56, 57, 97, 98, 99, 100, 101, 102, 103, 104, 105, 106, 107, 108, 109, 110, 111, 112, 113, 114, 115, 116, 117, 118, 119, 120, 121, 122]⟩ : ByteArray) (v % b) h' = dgt (v % b) := fun h' => digStr_at (v % b) (by omega) h'
      clear hr hR hRr hmore hd hv2 eq
      obtain ⟨d, hdd⟩ : ∃ d, v % b = d := ⟨_, rfl⟩
      rw [hdd] at hm hlt HR HD hdv
      have h36 : d < 36 := by omega
      have hvb' : (b : Int) ≤ v := by omega
      go_wp2
      go_roundw
      case rel =>
        refine ⟨v / b, q, dgt d :: out, ?_, rfl, by simp; omega, by simp; omega, by simpa using hle, ?_, ?_, hbl.setCell (Nat.le_refl _) _⟩
        · rw [HBE.out]; simp
        · rw [HD.out]; simp
        · exact HR.out
      case measure =>
        rw [HBE.out] at hdec
        have e0 : ((v : Int) / 2 ^ e) = ((v / 2 ^ e : Nat) : Int) := by simp
        rw [e0]
        simp only [intOf, Int.toNat_natCast]
        exact hdec
end Go.Proofs.YteknngncnbfbnaaGreatDoor
