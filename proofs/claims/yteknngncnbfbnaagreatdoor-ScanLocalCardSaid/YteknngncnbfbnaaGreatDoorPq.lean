/- Pieces as a function of the source's bytes. -/
import Derived.Test.YteknngncnbfbnaaGreatDoorPc
import Derived.RangeFuncNested
import Derived.RangeFuncBound
import Derived.RangeFuncCalls
import Derived.RangeFuncLeaves
import Derived.RangeFuncBox
import Derived.Shelf.Abstract
import Derived.WalkKit
import Derived.OwnWalkIn
import Derived.TacticsInMore
import Derived.LoopNIn
import Derived.LoopIn
import Derived.RecoverIn
import Derived.Maps.AppendAt
import Derived.Outline
import Derived.Handy
import Derived.KernelRfl
namespace Go.Proofs.YteknngncnbfbnaaGreatDoor
open Go Go.RowKit Go.Shelf

theorem ext_mkS (s : ByteArray) (k n : Nat) : s.extract k (k + n) = mkS (((bs s).drop k).take n) := by
  apply bs_ext; rw [piece_bs, bs_mkS]
/-- The pieces with which bytes begin; how many bytes they have; what ends them. -/
def goL : Nat → List UInt8 → List Bit × Nat × Option Nat
  | 0, _ => ([], 0, none)
  | _ + 1, [] => ([], 0, none)
  | f + 1, c :: l =>
    match firstL (c :: l) with
    | .bad x => ([], 0, some x)
    | .ok kd n => ((kd, mkS ((c :: l).take n)) :: (goL f ((c :: l).drop n)).1, n + (goL f ((c :: l).drop n)).2.1, (goL f ((c :: l).drop n)).2.2)
theorem goL_ok {f : Nat} {l : List UInt8} {kd n : Nat} (hl : l ≠ []) (h : firstL l = .ok kd n) : goL (f + 1) l = ((kd, mkS (l.take n)) :: (goL f (l.drop n)).1, n + (goL f (l.drop n)).2.1, (goL f (l.drop n)).2.2) := by
  cases l with
  | nil => exact absurd rfl hl
  | cons c l => conv => lhs; unfold goL
                rw [h]
theorem goL_bad {f : Nat} {l : List UInt8} {x : Nat} (hl : l ≠ []) (h : firstL l = .bad x) : goL (f + 1) l = ([], 0, some x) := by
  cases l with
  | nil => exact absurd rfl hl
  | cons c l => conv => lhs; unfold goL
                rw [h]
theorem goL_nil (f : Nat) : goL f [] = ([], 0, none) := by cases f <;> rfl
theorem goL_run {s : ByteArray} {k : Nat} {pre : List Bit} (h : Run s k pre) : ∀ f, s.size ≤ f → ∃ f', s.size ≤ f' + k ∧
    goL f (bs s) = (pre ++ (goL f' ((bs s).drop k)).1, k + (goL f' ((bs s).drop k)).2.1, (goL f' ((bs s).drop k)).2.2) := by
  induction h with
  | nil => intro f hf; exact ⟨f, by omega, by simp⟩
  | @snoc k pre kd n h hf ih =>
    intro f hle
    obtain ⟨f', h1, h2⟩ := ih f hle
    obtain ⟨_, _, hn1, hnl⟩ := firstL_ok hf
    have hne : (bs s).drop k ≠ [] := by intro e; rw [e] at hnl; simp at hnl; omega
    rw [List.length_drop, bs_len] at hnl
    obtain ⟨g, rfl⟩ : ∃ g, f' = g + 1 := ⟨f' - 1, by omega⟩
    rw [goL_ok hne hf, List.drop_drop] at h2
    refine ⟨g, by omega, ?_⟩
    rw [h2, ext_mkS]
    simp [Nat.add_assoc]
/-- WHAT PIECES HANDS BACK: the pieces, the error, its line. -/
def pcsL (l : List UInt8) : List Bit × Nat × Nat :=
  if 20000 < l.length then ([], 2, 0)
  else match goL l.length l with
    | (xs, _, none) => (xs, 0, 0)
    | (_, k, some x) => ([], x, 1 + nl (l.take k))
theorem pcsL_long {s : ByteArray} (h : 20000 < s.size) : pcsL (bs s) = ([], 2, 0) := if_pos (by rw [bs_len]; exact h)
theorem pcsL_all {s : ByteArray} (h : s.size ≤ 20000) {xs : List Bit} (hr : Run s s.size xs) : pcsL (bs s) = (xs, 0, 0) := by
  obtain ⟨f', _, e⟩ := goL_run hr s.size (Nat.le_refl _)
  rw [List.drop_eq_nil_of_le (by rw [bs_len]; exact Nat.le_refl _), goL_nil] at e
  unfold pcsL
  rw [if_neg (by rw [bs_len]; omega), bs_len, e]
  simp
theorem pcsL_bad {s : ByteArray} (h : s.size ≤ 20000) {k : Nat} {pre : List Bit} {x : Nat} (hk : k < s.size) (hr : Run s k pre) (hf : firstL ((bs s).drop k) = .bad x) : pcsL (bs s) = ([], x, 1 + nl ((bs s).take k)) := by
  obtain ⟨f', h1, e⟩ := goL_run hr s.size (Nat.le_refl _)
  have hne : (bs s).drop k ≠ [] := by
    intro e'
    have := congrArg List.length e'
    rw [List.length_drop, bs_len] at this
    simp at this
    omega
  obtain ⟨g, rfl⟩ : ∃ g, f' = g + 1 := ⟨f' - 1, by omega⟩
  rw [goL_bad hne hf] at e
  unfold pcsL
  rw [if_neg (by rw [bs_len]; omega), bs_len, e]
  simp
theorem pieces_eq (s : ByteArray) (w : World) (hE : Env w) : Calls Tryz.prog 29 #[.string s] w fun e w' => PcsPost w (pcsL (bs s)).1 (pcsL (bs s)).2.1 (pcsL (bs s)).2.2 e w' := by
  by_cases h : 20000 < s.size
  · rw [pcsL_long h]; exact pieces_long s h w
  · refine (pieces_any s (by omega) w hE).mono ?_
    rintro e w' (⟨xs, hr, hp⟩ | ⟨x, k, pre, hk, hr, hf, hp⟩)
    · rw [pcsL_all (by omega) hr]; exact hp
    · rw [pcsL_bad (by omega) hk hr hf]; exact hp
theorem try_it : pcsL [120, 10, 48, 48, 55] = ([], 11, 2) := by kernel_rfl
end Go.Proofs.YteknngncnbfbnaaGreatDoor
