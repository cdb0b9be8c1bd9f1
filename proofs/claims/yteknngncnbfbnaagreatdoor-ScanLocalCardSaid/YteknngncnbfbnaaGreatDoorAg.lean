/- Again, where the places or one of the two sources do not fit. -/
import Derived.Test.YteknngncnbfbnaaGreatDoorPo
import Derived.RangeFuncNested
import Derived.RangeFuncBound
import Derived.RangeFuncCalls
import Derived.RangeFuncLeaves
import Derived.RangeFuncBox
import Derived.Shelf.Abstract
import Derived.WalkKit
import Derived.OwnWalkIn
import Derived.TacticsInMore
import Derived.LoopNIn
import Derived.LoopIn
import Derived.RecoverIn
import Derived.Maps.AppendAt
import Derived.Outline
import Derived.Handy
import Derived.Deep.LoopGhost
import Derived.RegionTactic
import Derived.ChangeAlike
import Derived.Deep.QuietTactic
import Derived.BigQuiet
import Derived.StillTailTactics
import Derived.Deep.RegionWith
import Derived.LoopTactic
import Derived.OwnWalk
import Derived.Deep.AppendLies
import Derived.Deep.DeepCutAuto
import Derived.KernelRfl
import Derived.KernelRfl
namespace Go.Proofs.YteknngncnbfbnaaGreatDoor
open Go Go.RowKit Go.Shelf

def AgainPost (w : World) (a b x l : Int) (e : Ending) (w' : World) : Prop := e = .returned (.tuple #[.int .i64 a, .int .i64 b, .agg #[.int .i64 x, .int .i64 l]]) ∧ Below w.heap.size w w'
set_option maxRecDepth 100000 in
set_option maxHeartbeats 2000000 in
theorem again_arg (s t : ByteArray) (f o : Int) (h : f < 0 ∨ o < f ∨ (s.size : Int) < o) (w : World) : Calls Tryz.prog 42 #[.string s, .int .i64 f, .int .i64 o, .string t] w (AgainPost w 0 0 1 0) := by
  rcases (show f < 0 ∨ (0 ≤ f ∧ o < f) ∨ (0 ≤ f ∧ f ≤ o ∧ (s.size : Int) < o) by omega) with h | ⟨h, h'⟩ | ⟨h, h', h''⟩
  all_goals
    go_enter Tryz.func42, Tryz.ntmps42
    go_wp2_with fail
    refine bodyPost_ret (v := .tuple #[.int .i64 0, .int .i64 0, .agg #[.int .i64 1, .int .i64 0]]) ?_ rfl ⟨rfl, (Below.refl _ _).alloc (Nat.le_refl _) _⟩
    simp [results, Tryz.results42, go_sem]
set_option maxRecDepth 100000 in
set_option maxHeartbeats 2000000 in
theorem again_one (s t : ByteArray) (f o : Nat) (h1 : f ≤ o) (h2 : o ≤ s.size) (x l : Nat) (xs : List Bit) (hp : pcsL (bs s) = (xs, x, l)) (hx : x ≠ 0) (w : World) (hE : Env w) : Calls Tryz.prog 42 #[.string s, .int .i64 f, .int .i64 o, .string t] w (AgainPost w 0 0 x l) := by
  have hc := pieces_eq s (w.alloc (.cells #[.int .i64 0, .int .i64 0] 34)) (hE.alloc _)
  rw [hp] at hc
  have HC := hide hc
  clear hc hp
  have hx' : ((x : Int) != 0) = true := by simp; omega
  go_enter Tryz.func42, Tryz.ntmps42
  go_wp2_with (go_at_call 29; refine (unhide HC).mono ?_; rintro e w1 ⟨v, rfl, hH, hB⟩; have hN := Blk.below (Blk.new w [.int .i64 0, .int .i64 0] 34) hB (by simp); have n0 := hN.cell 0; have n1 := hN.cell 1; have z0 := hN.frozen 0; have z1 := hN.frozen 1)
  go_region
  all_goals
    go_wp2
    have hZ := ((((hN.set 0 (.int .i64 x)).set 1 (.int .i64 l)).set 0 (.int .i64 x)).set 1 (.int .i64 l)).drew
    have hc0 := hZ.cell 0
    have hc1 := hZ.cell 1
    refine bodyPost_ret (v := .tuple #[.int .i64 0, .int .i64 0, .agg #[.int .i64 x, .int .i64 l]]) ?_ rfl ⟨rfl, ?_⟩
    · revert hc0 hc1
      generalize ((((w1.setCell ⟨w.heap.size, 0, none⟩ (.int .i64 x)).setCell ⟨w.heap.size, 1, none⟩ (.int .i64 l)).setCell ⟨w.heap.size, 0, none⟩ (.int .i64 x)).setCell ⟨w.heap.size, 1, none⟩ (.int .i64 l)).drew = Z
      intro hc0 hc1
      simp [results, Tryz.results42, go_sem, hc0, hc1]
    · have h0 := ((Below.refl _ w).alloc (Nat.le_refl _) (.cells #[.int .i64 0, .int .i64 0] 34)).trans (hB.mono (by simp))
      exact ((((h0.setCell (Nat.le_refl _) _).setCell (Nat.le_refl _) _).setCell (Nat.le_refl _) _).setCell (Nat.le_refl _) _).drew
def midS (s t : ByteArray) (f o : Nat) : ByteArray := s.extract 0 f ++ t ++ s.extract o s.size
theorem bs_app (a b : ByteArray) : bs (a ++ b) = bs a ++ bs b := by unfold bs; simp
theorem bs_midS (s t : ByteArray) (f o : Nat) : bs (midS s t f o) = (bs s).take f ++ bs t ++ (bs s).drop o := by
  unfold midS; rw [bs_app, bs_app, bs_take, bs_drop]
set_option maxRecDepth 100000 in
set_option maxHeartbeats 2000000 in
theorem again_two (s t : ByteArray) (f o : Nat) (h1 : f ≤ o) (h2 : o ≤ s.size) (hs : s.size ≤ 100000) (ht : t.size ≤ 100000) (xs : List Bit) (hp : pcsL (bs s) = (xs, 0, 0)) (x l : Nat) (ys : List Bit) (hq : pcsL (bs (midS s t f o)) = (ys, x, l)) (hx : x ≠ 0) (w : World) (hE : Env w) : Calls Tryz.prog 42 #[.string s, .int .i64 f, .int .i64 o, .string t] w (AgainPost w 0 0 x l) := by
  have hc := pieces_eq s (w.alloc (.cells #[.int .i64 0, .int .i64 0] 34)) (hE.alloc _)
  rw [hp] at hc
  have HC := hide hc
  have hc2 : ∀ W, Env W → Calls Tryz.prog 29 #[.string (s.extract 0 f ++ t ++ s.extract o s.size)] W (PcsPost W ys x l) := fun W hW => by
    have := pieces_eq (midS s t f o) W hW
    rw [hq] at this
    exact this
  have HC2 := hide hc2
  clear hc hp hc2 hq
  have hx' : ((x : Int) != 0) = true := by simp; omega
  go_enter Tryz.func42, Tryz.ntmps42
  go_wp2_with (go_at_call 29; refine (unhide HC).mono ?_; clear HC; rintro e w1 ⟨v, rfl, hH, hB⟩; have hN := Blk.below (Blk.new w [.int .i64 0, .int .i64 0] 34) hB (by simp); have n0 := hN.cell 0; have n1 := hN.cell 1; have z0 := hN.frozen 0; have z1 := hN.frozen 1)
  obtain ⟨W1, hW1⟩ : ∃ W1, (w1.setCell ⟨w.heap.size, 0, none⟩ (.int .i64 0)).setCell ⟨w.heap.size, 1, none⟩ (.int .i64 0) = W1 := ⟨_, rfl⟩
  have hN1 : Blk W1 w.heap.size [.int .i64 0, .int .i64 0] 34 := by rw [← hW1]; exact (hN.set 0 _).set 1 _
  have hB1 : Below w.heap.size w W1 := by
    rw [← hW1]
    have h0 := ((Below.refl _ w).alloc (Nat.le_refl _) (.cells #[.int .i64 0, .int .i64 0] 34)).trans (hB.mono (by simp))
    exact (h0.setCell (Nat.le_refl _) _).setCell (Nat.le_refl _) _
  have hE1 : Env W1 := hE.below hB1 hE.sz
  rw [hW1]
  clear hW1 hN n0 n1 z0 z1 hB hH
  go_region_with (go_at_call 29; refine (unhide HC2 _ hE1.drew).mono ?_; clear HC2; rintro e w2 ⟨v2, rfl, hH2, hB2⟩; have hN2 := Blk.below (Blk.drewN hN1 1) hB2 hN1.lt; have n0 := hN2.cell 0; have n1 := hN2.cell 1; have z0 := hN2.frozen 0; have z1 := hN2.frozen 1)
  all_goals
    go_wp2
    go_region
    all_goals
      go_wp2
      have hZ := ((((hN2.set 0 (.int .i64 x)).set 1 (.int .i64 l)).set 0 (.int .i64 x)).set 1 (.int .i64 l)).drew
      have hc0 := hZ.cell 0
      have hc1 := hZ.cell 1
      refine bodyPost_ret (v := .tuple #[.int .i64 0, .int .i64 0, .agg #[.int .i64 x, .int .i64 l]]) ?_ rfl ⟨rfl, ?_⟩
      · revert hc0 hc1
        generalize ((((w2.setCell ⟨w.heap.size, 0, none⟩ (.int .i64 x)).setCell ⟨w.heap.size, 1, none⟩ (.int .i64 l)).setCell ⟨w.heap.size, 0, none⟩ (.int .i64 x)).setCell ⟨w.heap.size, 1, none⟩ (.int .i64 l)).drew = Z
        intro hc0 hc1
        simp [results, Tryz.results42, go_sem, hc0, hc1]
      · have h0 := hB1.drew.trans (hB2.mono hB1.size)
        exact ((((h0.setCell (Nat.le_refl _) _).setCell (Nat.le_refl _) _).setCell (Nat.le_refl _) _).setCell (Nat.le_refl _) _).drew

/-- How many elements two lists have alike at their begin. -/
def cpf : List Bit → List Bit → Nat
  | x :: xs, y :: ys => if x = y then cpf xs ys + 1 else 0
  | _, _ => 0
theorem cpf_le : ∀ (xs ys : List Bit), cpf xs ys ≤ xs.length ∧ cpf xs ys ≤ ys.length
  | [], ys => by simp [cpf]
  | x :: xs, [] => by simp [cpf]
  | x :: xs, y :: ys => by
    have := cpf_le xs ys
    unfold cpf
    split <;> simp only [List.length_cons] <;> omega
theorem cpf_on {xs ys : List Bit} {i : Nat} (h : i < xs.length) (k : i < ys.length) (e : xs[i] = ys[i]) : cpf (xs.drop i) (ys.drop i) = cpf (xs.drop (i + 1)) (ys.drop (i + 1)) + 1 := by
  rw [List.drop_eq_getElem_cons h, List.drop_eq_getElem_cons k]
  conv => lhs; unfold cpf
  rw [if_pos e]
theorem cpf_off {xs ys : List Bit} {i : Nat} (h : i < xs.length) (k : i < ys.length) (e : xs[i] ≠ ys[i]) : cpf (xs.drop i) (ys.drop i) = 0 := by
  rw [List.drop_eq_getElem_cons h, List.drop_eq_getElem_cons k]
  conv => lhs; unfold cpf
  rw [if_neg e]
theorem cpf_end {xs ys : List Bit} {i : Nat} (h : xs.length ≤ i ∨ ys.length ≤ i) : cpf (xs.drop i) (ys.drop i) = 0 := by
  have := cpf_le (xs.drop i) (ys.drop i)
  rw [List.length_drop, List.length_drop] at this
  omega
def firstR (xs ys : List Bit) : Nat := cpf xs ys
def lastR (xs ys : List Bit) : Nat := cpf (xs.reverse.take (min xs.length ys.length - firstR xs ys)) ys.reverse
/-- A slice of pieces in a world: its cells are known, and lie in a block of their own. -/
def Lies (W : World) (A : Option Addr) (N : Nat) (xs : List Bit) : Prop := ∀ k x, xs[k]? = some x → ∃ g, A = some ⟨g, 0, none⟩ ∧ N < g ∧ g < W.heap.size ∧ W.cell? ⟨g, 2 * k, none⟩ = some (.int .u8 x.1) ∧ W.cell? ⟨g, 2 * k + 1, none⟩ = some (.string x.2)
theorem Lies.to {W W' : World} {A : Option Addr} {N : Nat} {xs : List Bit} (h : Lies W A N xs) (hs : W.heap.size ≤ W'.heap.size) (hb : ∀ g, N < g → g < W.heap.size → W'.heap[g]? = W.heap[g]?) : Lies W' A N xs := fun k x hk => by
  obtain ⟨g, e, h1, h2, c0, c1⟩ := h k x hk
  refine ⟨g, e, h1, by omega, ?_, ?_⟩
  · rw [← c0]; unfold World.cell?; rw [hb g h1 h2]
  · rw [← c1]; unfold World.cell?; rw [hb g h1 h2]
end Go.Proofs.YteknngncnbfbnaaGreatDoor
