/- Digits, for every number and base. -/
import Derived.Test.YteknngncnbfbnaaGreatDoorFd
import Derived.RangeFuncNested
import Derived.RangeFuncBound
import Derived.RangeFuncCalls
import Derived.RangeFuncLeaves
import Derived.RangeFuncBox
import Derived.Shelf.Abstract
import Derived.WalkKit
import Derived.OwnWalkIn
import Derived.TacticsInMore
import Derived.LoopNIn
import Derived.LoopIn
import Derived.RecoverIn
import Derived.Maps.AppendAt
import Derived.Outline
import Derived.Handy
import Derived.Deep.LoopGhost
import Derived.RegionTactic
import Derived.ChangeAlike
import Derived.Deep.QuietTactic
import Derived.BigQuiet
import Derived.StillTailTactics
import Derived.Deep.RegionWith
import Derived.LoopTactic
import Derived.OwnWalk
import Derived.Deep.AppendLies
import Derived.Deep.DeepCutAuto
import Derived.KernelRfl
import Derived.KernelRfl
import Derived.Laws.IdiomStrings
namespace Go.Proofs.YteknngncnbfbnaaGreatDoor
open Go Go.RowKit Go.Shelf
/-- The bases of Digits but 10. -/
theorem base_cases (b : Nat) (h1 : 2 ≤ b) (h2 : b ≤ 16) (h3 : b ≠ 10) : (∃ e, powB b e) ∨ oddB b := by
  unfold powB oddB
  rcases (show b = 2 ∨ b = 3 ∨ b = 4 ∨ b = 5 ∨ b = 6 ∨ b = 7 ∨ b = 8 ∨ b = 9 ∨ b = 11 ∨ b = 12 ∨ b = 13 ∨ b = 14 ∨ b = 15 ∨ b = 16 by omega) with rfl | rfl | rfl | rfl | rfl | rfl | rfl | rfl | rfl | rfl | rfl | rfl | rfl | rfl
  · exact .inl ⟨1, by decide⟩
  · exact .inr (by decide)
  · exact .inl ⟨2, by decide⟩
  · exact .inr (by decide)
  · exact .inr (by decide)
  · exact .inr (by decide)
  · exact .inl ⟨3, by decide⟩
  · exact .inr (by decide)
  · exact .inr (by decide)
  · exact .inr (by decide)
  · exact .inr (by decide)
  · exact .inr (by decide)
  · exact .inr (by decide)
  · exact .inl ⟨4, by decide⟩
theorem fmtBits_any (b n : Nat) (h1 : 2 ≤ b) (h2 : b ≤ 16) (h3 : b ≠ 10) (hn : n ≤ 1000000000) (w : World) (hD : Db w) (hE : 10 ≤ w.heap.size) : Calls Tryz.prog 107 #[.slice none 0 0, .int .u64 n, .int .i64 b, .bool false, .bool false] w fun r w' => r = .returned (.tuple #[.slice none 0 0, .string (mkS (digL b 40 n))]) ∧ Below w.heap.size w w' := by
  rcases base_cases b h1 h2 h3 with ⟨e, h⟩ | h
  · exact bits_pow h n hn w hD hE
  · exact bits_odd h n hn w
theorem fmt84_any (b n : Nat) (h1 : 2 ≤ b) (h2 : b ≤ 16) (h3 : b ≠ 10) (hn : n ≤ 1000000000) (w : World) (hD : Db w) (hE : 10 ≤ w.heap.size) : Calls Tryz.prog 84 #[.int .i64 n, .int .i64 b] w fun r w' => r = .returned (.string (mkS (digL b 40 n))) ∧ Below w.heap.size w w' := by
  have H := hide (fmtBits_any b n h1 h2 h3 hn w hD hE)
  have hb10 : ((b : Int) == 10) = false := by simp; omega
  go_enter Tryz.func84, Tryz.ntmps84
  go_wp2_with (go_at_call 107; refine (unhide H).mono ?_; rintro r w' ⟨rfl, hb⟩)
  go_ret
  exact ⟨rfl, hb⟩
theorem fmt61_any (b n : Nat) (h1 : 2 ≤ b) (h2 : b ≤ 16) (h3 : b ≠ 10) (hn : n ≤ 1000000000) (w : World) (hD : Db w) (hE : 10 ≤ w.heap.size) : Calls Tryz.prog 61 #[.int .i64 n, .int .i64 b] w fun r w' => r = .returned (.string (mkS (digL b 40 n))) ∧ Below w.heap.size w w' := by
  have H := hide (fmt84_any b n h1 h2 h3 hn w hD hE)
  go_enter Tryz.func61, Tryz.ntmps61
  go_wp2_with (go_at_call 84; refine (unhide H).mono ?_; rintro r w' ⟨rfl, hb⟩)
  go_ret
  exact ⟨rfl, hb⟩
/-- What Digits hands back. -/
def digR (n b : Int) : List UInt8 × Int :=
  if n < 0 ∨ 1000000000 < n ∨ b < 2 ∨ 16 < b then ([], 1)
  else if b = 10 then (Lib.itoa n, 0)
  else (Lib.decDigits b.toNat ++ (95 :: Lib.toUpperA (digL b.toNat 40 n.toNat)), 0)
theorem below_grow' (w : World) (k : Nat) (os : Array Obj) : Below w.heap.size w (Sort.grow (w.drewN k) os) := by
  refine ⟨rfl, rfl, rfl, by simp [Sort.grow], fun j hj => ?_⟩
  show (w.heap ++ os)[j]? = _
  rw [Array.getElem?_append_left hj]
theorem dgt_ascii (d : Nat) (h : d < 16) : (dgt d).toNat < 128 := by
  have : ∀ d : Fin 16, (dgt d.val).toNat < 128 := by decide
  exact this ⟨d, h⟩
theorem digL_ascii (b : Nat) (h2 : 2 ≤ b) (h : b ≤ 16) : ∀ (f n : Nat), n < b ^ (f + 1) → (∀ c ∈ digL b f n, c.toNat < 128) ∧ (digL b f n).length ≤ f + 1
  | 0, n, hn => by simp [digL]; exact dgt_ascii _ (by simp at hn; omega)
  | f + 1, n, hn => by
    unfold digL
    split
    · simp; exact dgt_ascii _ (by omega)
    · have hd : n / b < b ^ (f + 1) := by
        rw [Nat.div_lt_iff_lt_mul (by omega)]
        rw [Nat.pow_succ] at hn
        exact hn
      obtain ⟨i1, i2⟩ := digL_ascii b h2 h f (n / b) hd
      have hm := Nat.mod_lt n (show 0 < b by omega)
      refine ⟨fun c hc => ?_, by simp; omega⟩
      rcases List.mem_append.1 hc with hc | hc
      · exact i1 c hc
      · simp at hc; subst hc; exact dgt_ascii _ (by omega)
theorem digL_fit (b n : Nat) (h2 : 2 ≤ b) (hn : n ≤ 1000000000) : n < b ^ (40 + 1) := by
  have h := Nat.pow_le_pow_left h2 41
  have h3 : (2 : Nat) ^ 41 = 2199023255552 := by decide
  show n < b ^ 41
  omega
theorem upper_any (b n : Nat) (h2 : 2 ≤ b) (h : b ≤ 16) (hn : n ≤ 1000000000) (w : World) : Calls Tryz.prog 60 #[.string (mkS (digL b 40 n))] w fun e w' => e = .returned (.string (mkS (Lib.toUpperA (digL b 40 n)))) ∧ Below w.heap.size w w' := by
  obtain ⟨h3, h4⟩ := digL_ascii b h2 h 40 n (digL_fit b n h2 hn)
  refine Tryz.strings_ToUpper_ascii (mkS (digL b 40 n)) w ?_ ?_
  · have e : (mkS (digL b 40 n)).size = (digL b 40 n).length := by rw [← bs_len, bs_mkS]
    omega
  · intro j c hc
    have : (mkS (digL b 40 n)).data.toList = digL b 40 n := by simp [mkS]
    rw [this] at hc
    exact h3 c (List.mem_of_getElem? hc)
theorem digits_bad (n b : Int) (h : n < 0 ∨ 1000000000 < n ∨ b < 2 ∨ 16 < b) (w : World) : Calls Tryz.prog 27 #[.int .i64 n, .int .i64 b] w fun e w' => e = .returned (.tuple #[.string (mkS []), .int .i64 1]) ∧ w = w' := by
  rcases (show n < 0 ∨ (0 ≤ n ∧ 1000000000 < n) ∨ ((0 ≤ n ∧ n ≤ 1000000000) ∧ b < 2) ∨ ((0 ≤ n ∧ n ≤ 1000000000) ∧ (2 ≤ b ∧ 16 < b)) by omega) with h | ⟨h1, h⟩ | ⟨⟨h1, h2⟩, h⟩ | ⟨⟨h1, h2⟩, h3, h⟩
  all_goals
    go_enter Tryz.func27, Tryz.ntmps27
    go_wp2_with fail
    go_ret2
    exact ⟨rfl, rfl⟩
theorem mkS_app (a b : List UInt8) : mkS a ++ mkS b = mkS (a ++ b) := by apply bs_ext; rw [bs_mkS]; unfold bs mkS; simp
theorem dec_len_all : ((List.range 17).all fun b => decide ((Lib.decDigits b).length ≤ 2)) = true := by kernel_rfl
theorem dec_len (b : Nat) (h : b < 17) : (Lib.decDigits b).length ≤ 2 := by
  have := List.all_eq_true.1 dec_len_all b (List.mem_range.2 h)
  simpa using this
theorem digits_ten (n : Nat) (h : n ≤ 1000000000) (w : World) (hE : Env w) : Calls Tryz.prog 27 #[.int .i64 n, .int .i64 10] w fun e w' => e = .returned (.tuple #[.string (mkS (Lib.itoa n)), .int .i64 0]) ∧ Below w.heap.size w w' := by
  have H := hide (Tryz.strconv_Itoa n (by omega) (by omega) w hE.p10)
  have hn1 : ¬ ((n : Int) < 0) := by omega
  have hn2 : (n : Int) ≤ 1000000000 := by omega
  go_enter Tryz.func27, Tryz.ntmps27
  go_wp2_with (go_at_call 59; refine (unhide H).mono ?_; rintro e w' ⟨rfl, k, os, rfl⟩)
  go_ret2
  exact ⟨rfl, below_grow' _ _ _⟩
theorem digits_base (n b : Nat) (h : n ≤ 1000000000) (h1 : 2 ≤ b) (h2 : b ≤ 16) (h3 : b ≠ 10) (w : World) (hE : Env w) (hD : Db w) : Calls Tryz.prog 27 #[.int .i64 n, .int .i64 b] w fun e w' => e = .returned (.tuple #[.string (mkS (Lib.decDigits b ++ (95 :: Lib.toUpperA (digL b 40 n)))), .int .i64 0]) ∧ Below w.heap.size w w' := by
  have H1 := hide (fmt61_any b n h1 h2 h3 h w hD hE.sz)
  have H2 := hide (upper_any b n h1 h2 h)
  have H3 := hide (fun W => Tryz.strconv_Itoa_small b (by omega) W)
  have hn1 : ¬ ((n : Int) < 0) := by omega
  have hn2 : (n : Int) ≤ 1000000000 := by omega
  have hb10 : ((b : Int) == 10) = false := by simp; omega
  have hul : (Lib.toUpperA (digL b 40 n)).length ≤ 41 := by
    unfold Lib.toUpperA
    rw [List.length_map]
    exact (digL_ascii b h1 h2 40 n (digL_fit b n h1 h)).2
  have hdl := dec_len b (by omega)
  obtain ⟨U, hU⟩ : ∃ U, Lib.toUpperA (digL b 40 n) = U := ⟨_, rfl⟩
  obtain ⟨D, hD'⟩ : ∃ D, Lib.decDigits b = D := ⟨_, rfl⟩
  rw [hU] at H2 hul ⊢
  rw [hD'] at H3 hdl ⊢
  have hsD : (mkS D).size ≤ 2 := by rw [← bs_len, bs_mkS]; exact hdl
  have hsU : (mkS U).size ≤ 41 := by rw [← bs_len, bs_mkS]; exact hul
  have hH3 : Hid (∀ W, Calls Tryz.prog 59 #[.int .i64 b] W fun e w' => e = .returned (.string (mkS D)) ∧ w' = W) := H3
  have hcat : mkS D ++ ⟨#[95]⟩ ++ mkS U = mkS (D ++ 95 :: U) := by
    rw [show (⟨#[95]⟩ : ByteArray) = mkS [95] from rfl, mkS_app, mkS_app, List.append_assoc]; rfl
  clear hU hD' hul hdl H3
  go_enter Tryz.func27, Tryz.ntmps27
  go_wp2_with (first | (go_at_call 61; refine (unhide H1).mono ?_; rintro e w1 ⟨rfl, hb1⟩) | (go_at_call 60; refine (unhide H2 w1).mono ?_; rintro e w2 ⟨rfl, hb2⟩) | (go_at_call 59; refine (unhide hH3 _).mono ?_; rintro e w3 ⟨rfl, rfl⟩))
  go_ret2
  exact ⟨rfl, hb1.trans (hb2.mono hb1.size)⟩
end Go.Proofs.YteknngncnbfbnaaGreatDoor
