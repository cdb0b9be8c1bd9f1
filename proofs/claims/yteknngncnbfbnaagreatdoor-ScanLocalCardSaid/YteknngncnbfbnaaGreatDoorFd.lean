/- strconv's digits to the other bases. -/
import Derived.Test.YteknngncnbfbnaaGreatDoorFb
import Derived.RangeFuncNested
import Derived.RangeFuncBound
import Derived.RangeFuncCalls
import Derived.RangeFuncLeaves
import Derived.RangeFuncBox
import Derived.Shelf.Abstract
import Derived.WalkKit
import Derived.OwnWalkIn
import Derived.TacticsInMore
import Derived.LoopNIn
import Derived.LoopIn
import Derived.RecoverIn
import Derived.Maps.AppendAt
import Derived.Outline
import Derived.Handy
import Derived.Deep.LoopGhost
import Derived.RegionTactic
import Derived.ChangeAlike
import Derived.Deep.QuietTactic
import Derived.BigQuiet
import Derived.StillTailTactics
import Derived.Deep.RegionWith
import Derived.LoopTactic
import Derived.OwnWalk
import Derived.Deep.AppendLies
import Derived.Deep.DeepCutAuto
import Derived.KernelRfl
import Derived.KernelRfl
import Derived.Laws.IdiomStrings
namespace Go.Proofs.YteknngncnbfbnaaGreatDoor
open Go Go.RowKit Go.Shelf
theorem quo_u64 (v b : Nat) (hb : b ≠ 0) (hv : v ≤ 1000000000) (W : World) : (Op.intDiv .quo .u64 (v : Int) (b : Int)).run Tryz.prog W = .ok (.int .u64 ((v / b : Nat) : Int)) W := by
  unfold Op.intDiv
  rw [if_neg (by omega)]
  have h : (v : Int).tdiv (b : Int) = ((v / b : Nat) : Int) := by rw [Int.tdiv_eq_ediv_of_nonneg (by omega)]; simp
  have h2 : v / b ≤ v := Nat.div_le_self _ _
  have hw : IntKind.u64.wrap ((v / b : Nat) : Int) = ((v / b : Nat) : Int) := by
    generalize v / b = q at h2
    have : q < 18446744073709551616 := by omega
    rw [IntKind.wrap_u64]
    omega
  show (pure (Value.int .u64 (IntKind.u64.wrap ((v : Int).tdiv (b : Int)))) : Sem Value).run Tryz.prog W = _
  rw [h, hw]
  exact Sem.run_pure _ _ _
set_option maxRecDepth 100000 in
set_option maxHeartbeats 2000000 in
theorem bits_odd {b : Nat} (hp : oddB b) (n : Nat) (hn : n ≤ 1000000000) (w : World) : Calls Tryz.prog 107 #[.slice none 0 0, .int .u64 n, .int .i64 b, .bool false, .bool false] w fun r w' => r = .returned (.tuple #[.slice none 0 0, .string (mkS (digL b 40 n))]) ∧ Below w.heap.size w w' := by
  have hb : 2 ≤ b ∧ b ≤ 16 ∧ b ≠ 10 := by rcases hp with rfl | rfl | rfl | rfl | rfl | rfl | rfl | rfl | rfl | rfl <;> decide
  have HP := hide (fun W => pow_not hp W)
  have e1 : ((b : Int) == 10) = false := by simp; omega
  have hB0 : Below w.heap.size w (w.alloc (.cells Tryz.zeroCells158 158)) := (Below.refl w.heap.size w).alloc (Nat.le_refl _) _
  have hR0 : Blk (w.alloc (.cells Tryz.zeroCells158 158)) w.heap.size (rowL []) 158 := by rw [zeros158]; exact Blk.new w (rowL []) 158
  go_enter Tryz.func107, Tryz.ntmps107
  go_wp2_with (first | (go_at_call 126; refine (unhide HP _).mono ?_; rintro r w' ⟨rfl, rfl⟩))
  clear HP
  generalize w.alloc (.cells Tryz.zeroCells158 158) = W1 at hB0 hR0 ⊢
  obtain ⟨N, hN⟩ : ∃ N, w.heap.size = N := ⟨_, rfl⟩
  rw [hN] at hB0 hR0 ⊢
  go_loopw [1, 13, 18] (fun u i _ wr => ∃ (v : Nat) (p : Nat) (out : List UInt8), u = .int .u64 v ∧ i = .int .i64 p ∧ p + out.length = 65 ∧ out.length ≤ 30 ∧ v * 2 ^ out.length ≤ n ∧ digL b 40 n = digL b (40 - out.length) v ++ out ∧ Blk wr N (rowL out) 158 ∧ Below N w wr) (fun u _ _ _ => (intOf u).toNat)
  case atStart => exact ⟨n, 65, [], rfl, rfl, rfl, by simp, by simp, by simp, hR0, hB0⟩
  case round =>
    obtain ⟨v, p, out, rfl, rfl, hpo, ho30, hv, hd, hr, hbl⟩ := hrel
    obtain ⟨q, rfl⟩ : ∃ q, p = q + 1 := ⟨p - 1, by omega⟩
    have hcq : wr.cell? ⟨N, q, none⟩ = some (.int .u8 0) := by
      rw [hr.cell q]; unfold rowL
      rw [List.getElem?_append_left (by simp; omega)]
      simp [List.getElem?_replicate, z8]; omega
    have hzq := hr.frozen q
    by_cases hvb : v < b
    · have hvb' : ¬ ((b : Int) ≤ v) := by omega
      have h36 : v < 36 := by omega
      have hsl := fun W => slice158 N q (by omega) W
      have hd1 := hd
      rw [digL_last hvb] at hd1
      have HD := Lib.hid hd1
      have hR := hr.set q (.int .u8 ((dgt v).toNat : Int))
      have eq : q = 64 - out.length := by omega
      have hRr : Blk (wr.setCell ⟨N, q, none⟩ (.int .u8 ((dgt v).toNat : Int))) N (rowL (dgt v :: out)) 158 := by
        rw [← rowL_cons (by omega), ← eq]; exact hR
      have hlen : (dgt v :: out).length = 65 - q := by simp; omega
      have hcv := run_convert_bytes_back (P := Tryz.prog) (wr.setCell ⟨N, q, none⟩ (.int .u8 ((dgt v).toNat : Int))) 86 9 5 ⟨N, q, none⟩ (65 - q) (dgt v :: out) Tryz.underlying86 Tryz.underlying5 Tryz.underlying9 (fun j hj => by
        have h1 := hRr.cell (q + j)
        have h2 := rowL_at (out := dgt v :: out) (by simp; omega) j hj
        rw [show 65 - (dgt v :: out).length + j = q + j by rw [hlen]; omega] at h2
        rw [addr_add]
        exact h1.trans h2)
      rw [hlen] at hcv
      have hdv : ∀ h', @getElem ByteArray Nat UInt8 _ _ (⟨#[48, 49, 50, 51, 52, 53, 54, 55, 56, 57, 97, 98, 99, 100, 101, 102, 103, 104, 105, 106, 107, 108, 109, 110, 111, 112, 113, 114, 115, 116, 117, 118, 119, 120, 121, 122]⟩ : ByteArray) v h' = dgt v := fun h' => digStr_at v (by omega) h'
      clear hr hR hRr hd hd1 eq hlen hv
      go_wp2
      go_ret2
      exact ⟨ret_two rfl (by rw [HD.out]; rfl), hbl.setCell (Nat.le_refl _) _⟩
    · have hv2 : 2 ^ out.length ≤ 500000000 := by
        have : 2 * 2 ^ out.length ≤ v * 2 ^ out.length := Nat.mul_le_mul_right _ (by omega)
        omega
      have hol : out.length < 29 := by
        rcases Nat.lt_or_ge out.length 29 with h | h
        · exact h
        · have := Nat.pow_le_pow_right (show 0 < 2 by decide) h
          omega
      have hvn : v ≤ 1000000000 := by
        have : v * 1 ≤ v * 2 ^ out.length := Nat.mul_le_mul_left _ (Nat.one_le_two_pow)
        omega
      have hq := fun W => quo_u64 v b (by omega) hvn W
      have hce : ((v / b : Nat) : Int) = (v : Int) / (b : Int) := by simp
      have hmb' : v / b * b ≤ v := Nat.div_mul_le_self v b
      have hdl : v / b ≤ v := Nat.div_le_self _ _
      have hw1 : IntKind.u64.wrap ((v : Int) / (b : Int)) = (v : Int) / (b : Int) := by
        rw [← hce, IntKind.wrap_u64]
        generalize v / b = X at hdl ⊢
        omega
      have hw2 : IntKind.u64.wrap ((v : Int) / (b : Int) * (b : Int)) = (v : Int) / (b : Int) * (b : Int) := by
        rw [← hce, ← Int.natCast_mul, IntKind.wrap_u64]
        generalize v / b * b = X at hmb' ⊢
        omega
      have hm : IntKind.u64.wrap ((v : Int) - (v : Int) / (b : Int) * (b : Int)) = (v % b : Nat) := by
        have h3 : v / b * b + v % b = v := by rw [Nat.mul_comm]; exact Nat.div_add_mod v b
        rw [← hce, ← Int.natCast_mul, IntKind.wrap_u64]
        generalize v / b * b = X at h3 ⊢
        generalize v % b = Y at h3 ⊢
        omega
      clear hce
      have hlt := Nat.mod_lt v (show 0 < b by omega)
      have hmore := digL_more (f := 39 - out.length) hvb
      rw [show 39 - out.length + 1 = 40 - out.length by omega] at hmore
      rw [hmore] at hd
      have hle : v / b * 2 ^ (out.length + 1) ≤ n := by
        have h1 : v / b * 2 ≤ v := by
          have h2 := Nat.div_mul_le_self v b
          have h3 : v / b * 2 ≤ v / b * b := Nat.mul_le_mul_left _ hb.1
          omega
        have h4 : v / b * 2 * 2 ^ out.length ≤ v * 2 ^ out.length := Nat.mul_le_mul_right _ h1
        rw [Nat.pow_succ, Nat.mul_comm (2 ^ out.length) 2, ← Nat.mul_assoc]
        omega
      have hdec : v / b < v := Nat.div_lt_self (by omega) (by omega)
      have hR := hr.set q (.int .u8 ((dgt (v % b)).toNat : Int))
      have eq : q = 64 - out.length := by omega
      have hRr : Blk (wr.setCell ⟨N, q, none⟩ (.int .u8 ((dgt (v % b)).toNat : Int))) N (rowL (dgt (v % b) :: out)) 158 := by
        rw [← rowL_cons (by omega), ← eq]; exact hR
      have HR := Lib.hid hRr
      have HD := Lib.hid hd
      have hdv : ∀ h', @getElem ByteArray Nat UInt8 _ _ (⟨#[48, 49, 50, 51, 52, 53, 54, 55, 56, 57, 97, 98, 99, 100, 101, 102, 103, 104, 105, 106, 107, 108, 109, 110, 111, 112, 113, 114, 115, 116, 117, 118, 119, 120, 121, 122]⟩ : ByteArray) (v % b) h' = dgt (v % b) := fun h' => digStr_at (v % b) (by omega) h'
      clear hr hR hRr hmore hd hv2 eq
      obtain ⟨d, hdd⟩ : ∃ d, v % b = d := ⟨_, rfl⟩
      rw [hdd] at hm hlt HR HD hdv
      have h36 : d < 36 := by omega
      have hvb' : (b : Int) ≤ v := by omega
      go_wp2
      go_roundw
      case rel =>
        refine ⟨v / b, q, dgt d :: out, ?_, rfl, by simp; omega, by simp; omega, by simpa using hle, ?_, ?_, hbl.setCell (Nat.le_refl _) _⟩
        · simp
        · rw [HD.out]; simp
        · exact HR.out
      case measure =>
        have e0 : ((v : Int) / b) = ((v / b : Nat) : Int) := by simp
        rw [e0]
        simp only [intOf, Int.toNat_natCast]
        exact hdec
end Go.Proofs.YteknngncnbfbnaaGreatDoor
