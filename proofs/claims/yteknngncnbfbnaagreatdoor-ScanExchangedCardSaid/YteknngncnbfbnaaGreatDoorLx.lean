/- One piece exchanged for another of its kind: the pieces of the texts. -/
import Derived.Test.YteknngncnbfbnaaGreatDoorJo
import Derived.Test.YteknngncnbfbnaaGreatDoorOw
import Derived.RangeFuncNested
import Derived.RangeFuncBound
import Derived.RangeFuncCalls
import Derived.RangeFuncLeaves
import Derived.RangeFuncBox
import Derived.Shelf.Abstract
import Derived.WalkKit
import Derived.OwnWalkIn
import Derived.TacticsInMore
import Derived.LoopNIn
import Derived.LoopIn
import Derived.RecoverIn
import Derived.Maps.AppendAt
import Derived.Outline
import Derived.Handy
import Derived.Deep.LoopGhost
import Derived.RegionTactic
import Derived.ChangeAlike
import Derived.Deep.QuietTactic
import Derived.BigQuiet
import Derived.StillTailTactics
import Derived.Deep.RegionWith
import Derived.LoopTactic
import Derived.OwnWalk
import Derived.Deep.AppendLies
import Derived.Deep.DeepCutAuto
import Derived.KernelRfl
namespace Go.Proofs.YteknngncnbfbnaaGreatDoor
open Go Go.RowKit Go.Shelf
/-- A row of pieces as its cells lie. -/
def Rows2 (W : World) (g : Nat) (xs : List Bit) : Prop := g < W.heap.size ∧ ∀ j u, (flatB xs)[j]? = some u → W.cell? ⟨g, j, none⟩ = some u
theorem flat_cell {xs : List Bit} {k : Nat} {x : Bit} (h : xs[k]? = some x) : (flatB xs)[k * 2]? = some (.int .u8 x.1) ∧ (flatB xs)[k * 2 + 1]? = some (.string x.2) := by
  have := flatB_at h
  rw [Nat.mul_comm] at this
  exact this
theorem flat_set {xs : List Bit} : ∀ {k : Nat} (y : Bit), k < xs.length → ((flatB xs).set (k * 2) (.int .u8 y.1)).set (k * 2 + 1) (.string y.2) = flatB (xs.set k y) := by
  induction xs with
  | nil => intro k y h; simp at h
  | cons x xs ih =>
    intro k y h
    have e : flatB (x :: xs) = .int .u8 x.1 :: .string x.2 :: flatB xs := rfl
    cases k with
    | zero => rfl
    | succ k =>
      have := ih (k := k) y (by simpa using h)
      rw [e, show (k + 1) * 2 = k * 2 + 1 + 1 by omega]
      show .int .u8 x.1 :: .string x.2 :: ((flatB xs).set (k * 2) (.int .u8 y.1)).set (k * 2 + 1) (.string y.2) = _
      rw [this]; rfl
theorem bits_of_row {w : World} {base g cap : Nat} {xs : List Bit} (h : w.ownsRow base 38 2 (.slice (some ⟨g, 0, none⟩) xs.length cap) xs.length (flatB xs)) (hx : xs ≠ []) : Bits w (some ⟨g, 0, none⟩) xs := by
  obtain ⟨g', cap', hv, hlt, hc⟩ := World.ownsRow.at_ h (List.length_pos_iff.2 hx)
  injection hv with h1 _ _
  injection h1 with h1
  injection h1 with h1 _ _
  subst h1
  intro k x hk
  obtain ⟨h1, h2⟩ := flat_cell hk
  exact ⟨g, rfl, hlt, hc _ _ h1, hc _ _ h2⟩
theorem exch_cat {xs ys : List Bit} {i k : Nat} (hi : i < xs.length) (hk : k < ys.length) : (cat (xs.set i ys[k])).length ≤ (cat xs).length + (cat ys).length := by
  have e : xs.set i ys[k] = xs.take i ++ ys[k] :: xs.drop (i + 1) := List.set_eq_take_append_cons_drop.trans (by rw [if_pos hi])
  have h1 : cat xs = cat (xs.take i) ++ cat (xs.drop i) := by rw [← cat_app, List.take_append_drop]
  have h2 : (cat (xs.drop (i + 1))).length ≤ (cat (xs.drop i)).length := by
    rw [List.drop_eq_getElem_cons hi, cat_cons, List.length_append]; omega
  have h3 := cat_piece_le hk
  rw [e, cat_app, cat_cons, List.length_append, List.length_append, h1, List.length_append, bs_len]
  omega
/-- The pieces with one exchanged are the pieces of their texts. -/
theorem exch_pcs {l m : List UInt8} {xs ys : List Bit} (h : Pcs l xs) (h' : Pcs m ys) {i k : Nat} (hi : i < xs.length) (hk : k < ys.length) (he : xs[i].1 = ys[k].1) (h6 : 6 ≤ xs[i].1) : Pcs (cat (xs.set i ys[k])) (xs.set i ys[k]) := by
  have e : xs.set i ys[k] = xs.take i ++ ys[k] :: xs.drop (i + 1) := List.set_eq_take_append_cons_drop.trans (by rw [if_pos hi])
  have e2 : xs = xs.take i ++ xs[i] :: xs.drop (i + 1) := by
    rw [← List.drop_eq_getElem_cons hi, List.take_append_drop]
  rw [e]
  refine pcs_exchange (x := xs[i]) (y := ys[k]) he.symm h6 (pcs_alone h' _ (List.getElem_mem hk)) (l := l) ?_
  rw [← e2]; exact h
end Go.Proofs.YteknngncnbfbnaaGreatDoor
