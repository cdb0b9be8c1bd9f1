/- SameBits and Same say true of lists whose cells hold the same. -/
import Derived.Test.YteknngncnbfbnaaGreatDoorRp
import Derived.Test.YteknngncnbfbnaaGreatDoorDv
import Derived.RangeFuncNested
import Derived.RangeFuncBound
import Derived.RangeFuncCalls
import Derived.RangeFuncLeaves
import Derived.RangeFuncBox
import Derived.Shelf.Abstract
import Derived.WalkKit
import Derived.OwnWalkIn
import Derived.TacticsInMore
import Derived.LoopNIn
import Derived.LoopIn
import Derived.RecoverIn
import Derived.Maps.AppendAt
import Derived.Outline
import Derived.Handy
import Derived.Deep.LoopGhost
import Derived.RegionTactic
import Derived.ChangeAlike
import Derived.Deep.QuietTactic
import Derived.BigQuiet
import Derived.StillTailTactics
import Derived.Deep.RegionWith
import Derived.LoopTactic
import Derived.OwnWalk
import Derived.Deep.AppendLies
import Derived.Deep.DeepCutAuto
import Derived.KernelRfl
namespace Go.Proofs.YteknngncnbfbnaaGreatDoor
open Go Go.RowKit Go.Shelf
/-- A slice of pieces whose cells are known. -/
def Bits (W : World) (A : Option Addr) (xs : List Bit) : Prop := ∀ k x, xs[k]? = some x → ∃ g, A = some ⟨g, 0, none⟩ ∧ g < W.heap.size ∧ W.cell? ⟨g, k * 2, none⟩ = some (.int .u8 x.1) ∧ W.cell? ⟨g, k * 2 + 1, none⟩ = some (.string x.2)
theorem Bits.below {W W' : World} {A : Option Addr} {xs : List Bit} (h : Bits W A xs) (hb : Below W.heap.size W W') : Bits W' A xs := by
  intro k x hk
  obtain ⟨g, hg, hlt, c0, c1⟩ := h k x hk
  exact ⟨g, hg, Nat.lt_of_lt_of_le hlt hb.size, (hb.cell (p := ⟨g, k * 2, none⟩) hlt).trans c0, (hb.cell (p := ⟨g, k * 2 + 1, none⟩) hlt).trans c1⟩
theorem Held.bits {w : World} {base : Nat} {v : Value} {xs : List Bit} (h : Held w base v xs) : ∃ A cap, v = .slice A xs.length cap ∧ Bits w A xs := by
  obtain ⟨A, cap, hv, hA⟩ := h.any
  refine ⟨A, cap, hv, fun k x hk => ?_⟩
  obtain ⟨g, hg, _, hlt, c0, c1⟩ := hA k x hk
  rw [Nat.mul_comm] at c0 c1
  exact ⟨g, hg, hlt, c0, c1⟩
/-- A slice of tokens whose cells are known. -/
def Toks (W : World) (A : Option Addr) (ts : List Tok) : Prop := ∀ k x, ts[k]? = some x → ∃ g, A = some ⟨g, 0, none⟩ ∧ g < W.heap.size ∧ W.cell? ⟨g, k * 3, none⟩ = some (.int .u8 x.1) ∧ W.cell? ⟨g, k * 3 + 1, none⟩ = some (.string x.2.1) ∧ W.cell? ⟨g, k * 3 + 2, none⟩ = some (.int .i64 x.2.2)
theorem Toks.below {W W' : World} {A : Option Addr} {xs : List Tok} (h : Toks W A xs) (hb : Below W.heap.size W W') : Toks W' A xs := by
  intro k x hk
  obtain ⟨g, hg, hlt, c0, c1, c2⟩ := h k x hk
  exact ⟨g, hg, Nat.lt_of_lt_of_le hlt hb.size, (hb.cell (p := ⟨g, k * 3, none⟩) hlt).trans c0, (hb.cell (p := ⟨g, k * 3 + 1, none⟩) hlt).trans c1, (hb.cell (p := ⟨g, k * 3 + 2, none⟩) hlt).trans c2⟩
theorem flatT_at {ts : List Tok} {k : Nat} {x : Tok} (h : ts[k]? = some x) : (flatT ts)[k * 3]? = some (.int .u8 x.1) ∧ (flatT ts)[k * 3 + 1]? = some (.string x.2.1) ∧ (flatT ts)[k * 3 + 2]? = some (.int .i64 x.2.2) := by
  induction ts generalizing k with
  | nil => cases h
  | cons y ys ih =>
    have e : flatT (y :: ys) = .int .u8 y.1 :: .string y.2.1 :: .int .i64 y.2.2 :: flatT ys := rfl
    cases k with
    | zero =>
      have hy : y = x := by simpa using h
      subst hy
      exact ⟨rfl, rfl, rfl⟩
    | succ k =>
      have := ih (k := k) (by simpa using h)
      rw [e, show (k + 1) * 3 = k * 3 + 1 + 1 + 1 by omega]
      exact this
theorem toks_of {w : World} {base : Nat} {v : Value} {ts : List Tok} (h : w.ownsRow base 56 3 v ts.length (flatT ts)) (hn : v = .slice none 0 0 ↔ ts = []) : ∃ A cap, v = .slice A ts.length cap ∧ Toks w A ts := by
  by_cases hx : ts = []
  · subst hx
    exact ⟨none, 0, hn.2 rfl, fun k x hk => by cases hk⟩
  · obtain ⟨g, cap, rfl, hlt, hc⟩ := World.ownsRow.at_ h (List.length_pos_iff.2 hx)
    refine ⟨some ⟨g, 0, none⟩, cap, rfl, fun k x hk => ?_⟩
    obtain ⟨h1, h2, h3⟩ := flatT_at hk
    exact ⟨g, rfl, hlt, hc _ _ h1, hc _ _ h2, hc _ _ h3⟩
set_option maxHeartbeats 800000 in
theorem sameBits_any (xs : List Bit) (A B : Option Addr) (c1 c2 : Nat) (hl : xs.length ≤ 100000) (w : World) (hA : Bits w A xs) (hB : Bits w B xs) : Calls Tryz.prog 36 #[.slice A xs.length c1, .slice B xs.length c2] w fun e w' => e = .returned (.bool true) ∧ ∃ n, w' = w.drewN n := by
  have HA := hide hA
  have HB := hide hB
  clear hA hB
  go_enter Tryz.func36, Tryz.ntmps36
  go_wp2
  go_loopw [5, 8] (fun _ i wr => ∃ k n : Nat, k ≤ xs.length ∧ i = .int .i64 k ∧ wr = w.drewN n) (fun _ i _ => xs.length - (intOf i).toNat)
  case atStart => exact ⟨0, 0, Nat.zero_le _, rfl, rfl⟩
  case round =>
    obtain ⟨k, n, hk, rfl, rfl⟩ := hrel
    by_cases hlt : k < xs.length
    · have hgk : xs[k]? = some xs[k] := List.getElem?_eq_getElem hlt
      obtain ⟨g, rfl, hg, a0, a1⟩ := unhide HA k _ hgk
      obtain ⟨g2, rfl, hg2, b0, b1⟩ := unhide HB k _ hgk
      clear hgk
      generalize xs[k] = x at a0 a1 b0 b1
      obtain ⟨kd, t⟩ := x
      simp only at a0 a1 b0 b1
      go_wp2
      go_quiet (fail)
      go_wp2
      go_roundw
      case rel => exact ⟨k + 1, n + nq, by omega, by go_num, by simp⟩
      case measure => simp [intOf]; omega
    · obtain rfl : k = xs.length := by omega
      go_wp2
      go_ret
      exact ⟨rfl, n, rfl⟩
set_option maxHeartbeats 800000 in
theorem same_toks (xs : List Tok) (A B : Option Addr) (c1 c2 : Nat) (hl : xs.length ≤ 100000) (w : World) (hA : Toks w A xs) (hB : Toks w B xs) : Calls Tryz.prog 37 #[.slice A xs.length c1, .slice B xs.length c2] w fun e w' => e = .returned (.bool true) ∧ ∃ n, w' = w.drewN n := by
  have HA := hide hA
  have HB := hide hB
  clear hA hB
  go_enter Tryz.func37, Tryz.ntmps37
  go_wp2
  go_loopw [5, 8] (fun _ i wr => ∃ k n : Nat, k ≤ xs.length ∧ i = .int .i64 k ∧ wr = w.drewN n) (fun _ i _ => xs.length - (intOf i).toNat)
  case atStart => exact ⟨0, 0, Nat.zero_le _, rfl, rfl⟩
  case round =>
    obtain ⟨k, n, hk, rfl, rfl⟩ := hrel
    by_cases hlt : k < xs.length
    · have hgk : xs[k]? = some xs[k] := List.getElem?_eq_getElem hlt
      obtain ⟨g, rfl, hg, a0, a1, a2⟩ := unhide HA k _ hgk
      obtain ⟨g2, rfl, hg2, b0, b1, b2⟩ := unhide HB k _ hgk
      clear hgk
      generalize xs[k] = x at a0 a1 a2 b0 b1 b2
      obtain ⟨kd, t, L⟩ := x
      simp only at a0 a1 a2 b0 b1 b2
      go_wp2
      go_quiet (fail)
      go_wp2
      go_roundw
      case rel => exact ⟨k + 1, n + nq, by omega, by go_num, by simp⟩
      case measure => simp [intOf]; omega
    · obtain rfl : k = xs.length := by omega
      go_wp2
      go_ret
      exact ⟨rfl, n, rfl⟩
end Go.Proofs.YteknngncnbfbnaaGreatDoor
