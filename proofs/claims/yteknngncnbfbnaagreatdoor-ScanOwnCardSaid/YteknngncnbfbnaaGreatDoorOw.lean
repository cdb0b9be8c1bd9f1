/- Rows of cells that may be written. -/
import Derived.Test.YteknngncnbfbnaaGreatDoorSb
import Derived.RangeFuncNested
import Derived.RangeFuncBound
import Derived.RangeFuncCalls
import Derived.RangeFuncLeaves
import Derived.RangeFuncBox
import Derived.Shelf.Abstract
import Derived.WalkKit
import Derived.OwnWalkIn
import Derived.TacticsInMore
import Derived.LoopNIn
import Derived.LoopIn
import Derived.RecoverIn
import Derived.Maps.AppendAt
import Derived.Outline
import Derived.Handy
import Derived.Deep.LoopGhost
import Derived.RegionTactic
import Derived.ChangeAlike
import Derived.Deep.QuietTactic
import Derived.BigQuiet
import Derived.StillTailTactics
import Derived.Deep.RegionWith
import Derived.LoopTactic
import Derived.OwnWalk
import Derived.Deep.AppendLies
import Derived.Deep.DeepCutAuto
import Derived.KernelRfl
namespace Go.Proofs.YteknngncnbfbnaaGreatDoor
open Go Go.RowKit Go.Shelf
/-- A row of cells that may be written: none of it, or a block of its own. -/
def Clr (W : World) (b0 : Nat) (A : Option Addr) (e : TypeId) (n : Nat) : Prop := n = 0 ∨ ∃ g cur, A = some ⟨g, 0, none⟩ ∧ b0 ≤ g ∧ W.heap[g]? = some (.cells cur e (0, 0)) ∧ n ≤ cur.size
theorem Clr.set {W : World} {b0 : Nat} {A : Option Addr} {e : TypeId} {n : Nat} (h : Clr W b0 A e n) (g' j : Nat) (v : Value) : Clr (W.setCell ⟨g', j, none⟩ v) b0 A e n := by
  rcases h with h | ⟨g, cur, hA, hb, hh, hn⟩
  · exact .inl h
  · refine .inr ?_
    by_cases hg : g = g'
    · subst hg
      exact ⟨g, cur.setIfInBounds j v, hA, hb, heap_setCell_same W g j cur e v hh, by simpa using hn⟩
    · exact ⟨g, cur, hA, hb, (Below.heap_setCell _ _ _ _ hg).trans hh, hn⟩
theorem Clr.below {W W' : World} {b0 : Nat} {A : Option Addr} {e : TypeId} {n : Nat} (h : Clr W b0 A e n) (hb : Below W.heap.size W W') : Clr W' b0 A e n := by
  rcases h with h | ⟨g, cur, hA, hb0, hh, hn⟩
  · exact .inl h
  · exact .inr ⟨g, cur, hA, hb0, (hb.block g (Array.getElem?_eq_some_iff.1 hh).1).trans hh, hn⟩
theorem Clr.of_row {W : World} {base e size n cap : Nat} {A : Option Addr} {xs : List Value} (h : W.ownsRow base e size (.slice A n cap) n xs) : Clr W base A e (n * size) := by
  rcases h.2 with ⟨_, hn⟩ | ⟨g, cap', cur, hv, hb, hg, hnc, _, hs, _⟩
  · exact .inl (by rw [hn]; simp)
  · injection hv with h1 h2 h3
    exact .inr ⟨g, cur, h1, hb, hg, by rw [hs]; exact Nat.mul_le_mul_right _ hnc⟩
theorem Clr.of_blk {W : World} {b0 N n : Nat} {cs : List Value} {e : TypeId} (h : Blk W N cs e) (hb : b0 ≤ N) (hn : n ≤ cs.length) : Clr W b0 (some ⟨N, 0, none⟩) e n := .inr ⟨N, cs.toArray, rfl, hb, h, by simpa using hn⟩
theorem Clr.at_ {W : World} {b0 : Nat} {A : Option Addr} {e : TypeId} {n : Nat} (h : Clr W b0 A e n) (hn : 0 < n) : ∃ g, A = some ⟨g, 0, none⟩ ∧ b0 ≤ g ∧ (∀ j, j < n → ∃ v, W.cell? ⟨g, j, none⟩ = some v) ∧ (∀ j, W.frozen? ⟨g, j, none⟩ = false) := by
  rcases h with h | ⟨g, cur, hA, hb, hh, hl⟩
  · omega
  · refine ⟨g, hA, hb, fun j hj => ⟨cur[j]'(by omega), ?_⟩, fun j => ?_⟩
    · unfold World.cell?
      simp only [hh]
      simp [show j < cur.size by omega]
    · unfold World.frozen?
      simp [hh]
/-- What stays while lists are cleared. -/
def Own4 (w : World) (b0 : Nat) (A1 A2 A3 A4 : Option Addr) (n m : Nat) (W : World) : Prop := Clr W b0 A1 38 (n * 2) ∧ Clr W b0 A2 56 (m * 3) ∧ Clr W b0 A3 9 63 ∧ Clr W b0 A4 9 23 ∧ Below b0 w W
theorem Own4.set {w : World} {b0 : Nat} {A1 A2 A3 A4 : Option Addr} {n m : Nat} {W : World} (h : Own4 w b0 A1 A2 A3 A4 n m W) (g j : Nat) (v : Value) (hg : b0 ≤ g) : Own4 w b0 A1 A2 A3 A4 n m (W.setCell ⟨g, j, none⟩ v) :=
  ⟨h.1.set g j v, h.2.1.set g j v, h.2.2.1.set g j v, h.2.2.2.1.set g j v, h.2.2.2.2.setCell (p := ⟨g, j, none⟩) hg v⟩
end Go.Proofs.YteknngncnbfbnaaGreatDoor
