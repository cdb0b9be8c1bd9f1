/- The reference's Again, walked. -/
import Derived.Test.YteknngncnbfbnaaGreatDoorRp
import Derived.RangeFuncNested
import Derived.RangeFuncBound
import Derived.RangeFuncCalls
import Derived.RangeFuncLeaves
import Derived.RangeFuncBox
import Derived.Shelf.Abstract
import Derived.WalkKit
import Derived.OwnWalkIn
import Derived.TacticsInMore
import Derived.LoopNIn
import Derived.LoopIn
import Derived.RecoverIn
import Derived.Maps.AppendAt
import Derived.Outline
import Derived.Handy
import Derived.Deep.LoopGhost
import Derived.RegionTactic
import Derived.ChangeAlike
import Derived.Deep.QuietTactic
import Derived.BigQuiet
import Derived.StillTailTactics
import Derived.Deep.RegionWith
import Derived.LoopTactic
import Derived.OwnWalk
import Derived.Deep.AppendLies
import Derived.Deep.DeepCutAuto
import Derived.KernelRfl
import Derived.Deep.CutRange
import Derived.Deep.CutBlock
namespace Go.Proofs.YteknngncnbfbnaaGreatDoor
open Go Go.RowKit Go.Shelf
set_option maxRecDepth 100000 in
set_option maxHeartbeats 2000000 in
theorem refAgain_arg (s t : ByteArray) (f o : Int) (h : f < 0 ∨ o < f ∨ (s.size : Int) < o) (w : World) : Calls Tryz.prog 43 #[.string s, .int .i64 f, .int .i64 o, .string t] w (AgainPost w 0 0 1 0) := by
  rcases (show f < 0 ∨ (0 ≤ f ∧ o < f) ∨ (0 ≤ f ∧ f ≤ o ∧ (s.size : Int) < o) by omega) with h | ⟨h, h'⟩ | ⟨h, h', h''⟩
  all_goals
    go_enter Tryz.func43, Tryz.ntmps43
    go_wp2_with fail
    refine bodyPost_ret (v := .tuple #[.int .i64 0, .int .i64 0, .agg #[.int .i64 1, .int .i64 0]]) ?_ rfl ⟨rfl, (Below.refl _ _).alloc (Nat.le_refl _) _⟩
    simp [results, Tryz.results43, go_sem]
set_option maxRecDepth 100000 in
set_option maxHeartbeats 2000000 in
theorem refAgain_one (s t : ByteArray) (f o : Nat) (h1 : f ≤ o) (h2 : o ≤ s.size) (x l : Nat) (xs : List Bit) (hp : pcsL (bs s) = (xs, x, l)) (hx : x ≠ 0) (w : World) : Calls Tryz.prog 43 #[.string s, .int .i64 f, .int .i64 o, .string t] w (AgainPost w 0 0 x l) := by
  have hc := refPieces_eq s (w.alloc (.cells #[.int .i64 0, .int .i64 0] 34))
  rw [hp] at hc
  have HC := hide hc
  clear hc hp
  have hx' : ((x : Int) != 0) = true := by simp; omega
  go_enter Tryz.func43, Tryz.ntmps43
  go_wp2_with (go_at_call 31; refine (unhide HC).mono ?_; rintro e w1 ⟨v, rfl, hH, hB⟩; have hN := Blk.alloc (Blk.below (Blk.new w [.int .i64 0, .int .i64 0] 34) hB (by simp)) (.cells #[.int .i64 x, .int .i64 l] 34); have n0 := hN.cell 0; have n1 := hN.cell 1; have z0 := hN.frozen 0; have z1 := hN.frozen 1)
  have hF := Blk.new w1 [.int .i64 x, .int .i64 l] 34
  have hB1 : Below w.heap.size w (w1.alloc (.cells #[.int .i64 x, .int .i64 l] 34)) := by
    have h0 := ((Below.refl _ w).alloc (Nat.le_refl _) (.cells #[.int .i64 0, .int .i64 0] 34)).trans (hB.mono (by simp))
    exact h0.alloc h0.size _
  clear hH hB HC
  generalize w1.alloc (.cells #[.int .i64 x, .int .i64 l] 34) = W1 at hN n0 n1 z0 z1 hF hB1 ⊢
  generalize w1.heap.size = F at hF ⊢
  have f0 := hF.cell 0
  have f1 := hF.cell 1
  go_wp2
  go_region
  all_goals
    go_wp2
    have hZ := fault_stored (x := x) (l := l) hN
    have hc0 := hZ.cell 0
    have hc1 := hZ.cell 1
    refine bodyPost_ret (v := .tuple #[.int .i64 0, .int .i64 0, .agg #[.int .i64 x, .int .i64 l]]) ?_ rfl ⟨rfl, ((hB1.setCell (Nat.le_refl _) _).setCell (Nat.le_refl _) _).drew⟩
    clear n0 n1 z0 z1 f0 f1
    revert hc0 hc1
    generalize ((W1.setCell ⟨w.heap.size, 0, none⟩ (.int .i64 x)).setCell ⟨w.heap.size, 1, none⟩ (.int .i64 l)).drew = Z
    intro hc0 hc1
    simp [results, Tryz.results43, go_sem, hc0, hc1]
set_option maxRecDepth 100000 in
set_option maxHeartbeats 2000000 in
theorem refAgain_long (s t : ByteArray) (f o : Nat) (h1 : f ≤ o) (h2 : o ≤ s.size) (ht : 20000 < t.size) (xs : List Bit) (hp : pcsL (bs s) = (xs, 0, 0)) (w : World) : Calls Tryz.prog 43 #[.string s, .int .i64 f, .int .i64 o, .string t] w (AgainPost w 0 0 2 0) := by
  have hc := refPieces_eq s (w.alloc (.cells #[.int .i64 0, .int .i64 0] 34))
  rw [hp] at hc
  have HC := hide hc
  clear hc hp
  have ht' : (20000 : Int) < t.size := by omega
  go_enter Tryz.func43, Tryz.ntmps43
  go_wp2_with (go_at_call 31; refine (unhide HC).mono ?_; rintro e w1 ⟨v, rfl, hH, hB⟩; have hN := Blk.alloc (Blk.below (Blk.new w [.int .i64 0, .int .i64 0] 34) hB (by simp)) (.cells #[.int .i64 0, .int .i64 0] 34); have n0 := hN.cell 0; have n1 := hN.cell 1; have z0 := hN.frozen 0; have z1 := hN.frozen 1)
  have hB1 : Below w.heap.size w (w1.alloc (.cells #[.int .i64 0, .int .i64 0] 34)) := by
    have h0 := ((Below.refl _ w).alloc (Nat.le_refl _) (.cells #[.int .i64 0, .int .i64 0] 34)).trans (hB.mono (by simp))
    exact h0.alloc h0.size _
  have hF := Blk.new w1 [.int .i64 0, .int .i64 0] 34
  clear hH hB HC
  generalize w1.alloc (.cells #[.int .i64 0, .int .i64 0] 34) = W1 at hN n0 n1 z0 z1 hF hB1 ⊢
  generalize w1.heap.size = F at hF ⊢
  have f0 := hF.cell 0
  go_wp2
  have hZ := (hN.set 0 (.int .i64 2)).set 1 (.int .i64 0)
  have hc0 := hZ.cell 0
  have hc1 := hZ.cell 1
  refine bodyPost_ret (v := .tuple #[.int .i64 0, .int .i64 0, .agg #[.int .i64 2, .int .i64 0]]) ?_ rfl ⟨rfl, (hB1.setCell (Nat.le_refl _) _).setCell (Nat.le_refl _) _⟩
  clear n0 n1 z0 z1 f0 hZ
  revert hc0 hc1
  generalize ((W1.setCell ⟨w.heap.size, 0, none⟩ (.int .i64 2)).setCell ⟨w.heap.size, 1, none⟩ (.int .i64 0)) = Z
  intro hc0 hc1
  simp [results, Tryz.results43, go_sem, hc0, hc1]
set_option maxRecDepth 100000 in
set_option maxHeartbeats 2000000 in
theorem refAgain_two (s t : ByteArray) (f o : Nat) (h1 : f ≤ o) (h2 : o ≤ s.size) (hs : s.size ≤ 100000) (ht : t.size ≤ 20000) (xs : List Bit) (hp : pcsL (bs s) = (xs, 0, 0)) (x l : Nat) (ys : List Bit) (hq : pcsL (bs (midS s t f o)) = (ys, x, l)) (hx : x ≠ 0) (w : World) : Calls Tryz.prog 43 #[.string s, .int .i64 f, .int .i64 o, .string t] w (AgainPost w 0 0 x l) := by
  have hc := refPieces_eq s (w.alloc (.cells #[.int .i64 0, .int .i64 0] 34))
  rw [hp] at hc
  have HC := hide hc
  have hc2 : ∀ W, Calls Tryz.prog 31 #[.string (s.extract 0 f ++ t ++ s.extract o s.size)] W (PcsPost W ys x l) := fun W => by
    have := refPieces_eq (midS s t f o) W
    rw [hq] at this
    exact this
  have HC2 := hide hc2
  clear hc hp hc2 hq
  have hx' : ((x : Int) != 0) = true := by simp; omega
  have ht' : ¬ (20000 : Int) < t.size := by omega
  go_enter Tryz.func43, Tryz.ntmps43
  go_wp2_with (go_at_call 31; refine (unhide HC).mono ?_; clear HC; rintro e w1 ⟨v, rfl, hH, hB⟩; have hN := Blk.alloc (Blk.below (Blk.new w [.int .i64 0, .int .i64 0] 34) hB (by simp)) (.cells #[.int .i64 0, .int .i64 0] 34); have n0 := hN.cell 0; have n1 := hN.cell 1; have z0 := hN.frozen 0; have z1 := hN.frozen 1)
  have hFN : w.heap.size ≠ w1.heap.size := by have := hB.size; simp at this; omega
  have hB1 : Below w.heap.size w (w1.alloc (.cells #[.int .i64 0, .int .i64 0] 34)) := by
    have h0 := ((Below.refl _ w).alloc (Nat.le_refl _) (.cells #[.int .i64 0, .int .i64 0] 34)).trans (hB.mono (by simp))
    exact h0.alloc h0.size _
  have hF := Blk.new w1 [.int .i64 0, .int .i64 0] 34
  have hF0 : w.heap.size ≤ w1.heap.size := by have := hB.size; simp at this; omega
  clear hH hB n0 n1 z0 z1
  generalize w1.alloc (.cells #[.int .i64 0, .int .i64 0] 34) = W1 at hN hF hB1 ⊢
  generalize w1.heap.size = F at hF hFN hF0 ⊢
  go_region_with (go_at_call 31; refine (unhide HC2 _).mono ?_; clear HC2; rintro e w2 ⟨v2, rfl, hH2, hB2⟩; have hN2 := Blk.below (Blk.drewN hN 1) hB2 hN.lt; have hF2 := Blk.below (Blk.drewN hF 1) hB2 hF.lt; have f0 := hF2.cell 0; have f1 := hF2.cell 1; have y0 := hF2.frozen 0; have y1 := hF2.frozen 1)
  all_goals
    have hB2' := hB1.drew.trans (hB2.mono hB1.size)
    have hF3 := (hF2.set 0 (.int .i64 x)).set 1 (.int .i64 l)
    have hB3 := (hB2'.setCell (p := ⟨F, 0, none⟩) hF0 (.int .i64 x)).setCell (p := ⟨F, 1, none⟩) hF0 (.int .i64 l)
    have hN3 : Blk ((w2.setCell ⟨F, 0, none⟩ (.int .i64 x)).setCell ⟨F, 1, none⟩ (.int .i64 l)) w.heap.size [.int .i64 0, .int .i64 0] 34 := by
      unfold Blk
      rw [Below.heap_setCell _ _ _ _ hFN, Below.heap_setCell _ _ _ _ hFN]
      exact hN2
    clear hB2 hB2' hH2 hN2 hF2 f0 f1 y0 y1
    generalize ((w2.setCell ⟨F, 0, none⟩ (.int .i64 x)).setCell ⟨F, 1, none⟩ (.int .i64 l)) = W3 at hN3 hF3 hB3 ⊢
    have f0 := hF3.cell 0
    have f1 := hF3.cell 1
    have n0 := hN3.cell 0
    have n1 := hN3.cell 1
    have z0 := hN3.frozen 0
    have z1 := hN3.frozen 1
    go_wp2
    go_region
    all_goals
      go_wp2
      have hZ := fault_stored (x := x) (l := l) hN3
      have hc0 := hZ.cell 0
      have hc1 := hZ.cell 1
      refine bodyPost_ret (v := .tuple #[.int .i64 0, .int .i64 0, .agg #[.int .i64 x, .int .i64 l]]) ?_ rfl ⟨rfl, ((hB3.setCell (Nat.le_refl _) _).setCell (Nat.le_refl _) _).drew⟩
      clear n0 n1 z0 z1 f0 f1
      revert hc0 hc1
      generalize ((W3.setCell ⟨w.heap.size, 0, none⟩ (.int .i64 x)).setCell ⟨w.heap.size, 1, none⟩ (.int .i64 l)).drew = Z
      intro hc0 hc1
      simp [results, Tryz.results43, go_sem, hc0, hc1]
set_option maxRecDepth 100000 in
set_option maxHeartbeats 4000000 in
theorem refAgain_ok (s t : ByteArray) (f o : Nat) (h1 : f ≤ o) (h2 : o ≤ s.size) (hs : s.size ≤ 100000) (ht : t.size ≤ 20000) (xs : List Bit) (hp : pcsL (bs s) = (xs, 0, 0)) (ys : List Bit) (hq : pcsL (bs (midS s t f o)) = (ys, 0, 0)) (w : World) : Calls Tryz.prog 43 #[.string s, .int .i64 f, .int .i64 o, .string t] w (AgainPost w (firstR xs ys) (lastR xs ys) 0 0) := by
  have hc := refPieces_eq s (w.alloc (.cells #[.int .i64 0, .int .i64 0] 34))
  rw [hp] at hc
  have HC := hide hc
  have hc2 : ∀ W, Calls Tryz.prog 31 #[.string (s.extract 0 f ++ t ++ s.extract o s.size)] W (PcsPost W ys 0 0) := fun W => by
    have := refPieces_eq (midS s t f o) W
    rw [hq] at this
    exact this
  have HC2 := hide hc2
  have hlx := (pcsL_le (bs s)).1
  rw [hp] at hlx
  have hly := (pcsL_le (bs (midS s t f o))).1
  rw [hq] at hly
  simp only at hlx hly
  clear hc hp hc2 hq
  have ht' : ¬ (20000 : Int) < t.size := by omega
  go_enter Tryz.func43, Tryz.ntmps43
  go_wp2_with (go_at_call 31; refine (unhide HC).mono ?_; clear HC; rintro e w1 ⟨v, rfl, hH, hB⟩; obtain ⟨A, cap, rfl, hA⟩ := hH.any; have hN := Blk.alloc (Blk.below (Blk.new w [.int .i64 0, .int .i64 0] 34) hB (by simp)) (.cells #[.int .i64 0, .int .i64 0] 34); have n0 := hN.cell 0; have n1 := hN.cell 1; have z0 := hN.frozen 0; have z1 := hN.frozen 1)
  have hFN : w.heap.size ≠ w1.heap.size := by have := hB.size; simp at this; omega
  have hB1 : Below w.heap.size w (w1.alloc (.cells #[.int .i64 0, .int .i64 0] 34)) := by
    have h0 := ((Below.refl _ w).alloc (Nat.le_refl _) (.cells #[.int .i64 0, .int .i64 0] 34)).trans (hB.mono (by simp))
    exact h0.alloc h0.size _
  have hF := Blk.new w1 [.int .i64 0, .int .i64 0] 34
  have hF0 : w.heap.size ≤ w1.heap.size := by have := hB.size; simp at this; omega
  have hA1 : ∀ k x, xs[k]? = some x → ∃ g, A = some ⟨g, 0, none⟩ ∧ w.heap.size < g ∧ g < w1.heap.size ∧ (w1.alloc (.cells #[.int .i64 0, .int .i64 0] 34)).cell? ⟨g, 2 * k, none⟩ = some (.int .u8 x.1) ∧ (w1.alloc (.cells #[.int .i64 0, .int .i64 0] 34)).cell? ⟨g, 2 * k + 1, none⟩ = some (.string x.2) := fun k x hk => by
    obtain ⟨g, e, h1, h2, c0, c1⟩ := hA k x hk
    simp at h1
    exact ⟨g, e, by omega, h2, (World.cell?_alloc_lt w1 _ ⟨g, 2 * k, none⟩ h2).trans c0, (World.cell?_alloc_lt w1 _ ⟨g, 2 * k + 1, none⟩ h2).trans c1⟩
  have hFlt : w1.heap.size < (w1.alloc (.cells #[.int .i64 0, .int .i64 0] 34)).heap.size := by simp
  clear hH hB n0 n1 z0 z1 hA
  generalize w1.alloc (.cells #[.int .i64 0, .int .i64 0] 34) = W1 at hN hF hB1 hA1 hFlt ⊢
  generalize w1.heap.size = F at hF hFN hF0 hA1 hFlt ⊢
  go_region_with (go_at_call 31; refine (unhide HC2 _).mono ?_; clear HC2; rintro e w2 ⟨v2, rfl, hH2, hB2⟩; obtain ⟨A2, cap2, rfl, hA2⟩ := hH2.any; have hN2 := Blk.below (Blk.drewN hN 1) hB2 hN.lt; have hF2 := Blk.below (Blk.drewN hF 1) hB2 hF.lt; have f0 := hF2.cell 0; have f1 := hF2.cell 1; have y0 := hF2.frozen 0; have y1 := hF2.frozen 1)
  all_goals
    have hB2' := hB1.drew.trans (hB2.mono hB1.size)
    have hF3 := (hF2.set 0 (.int .i64 0)).set 1 (.int .i64 0)
    have hB3 := (hB2'.setCell (p := ⟨F, 0, none⟩) hF0 (.int .i64 0)).setCell (p := ⟨F, 1, none⟩) hF0 (.int .i64 0)
    have hN3 : Blk ((w2.setCell ⟨F, 0, none⟩ (.int .i64 0)).setCell ⟨F, 1, none⟩ (.int .i64 0)) w.heap.size [.int .i64 0, .int .i64 0] 34 := by
      unfold Blk
      rw [Below.heap_setCell _ _ _ _ hFN, Below.heap_setCell _ _ _ _ hFN]
      exact hN2
    have hsz3 : ((w2.setCell ⟨F, 0, none⟩ (.int .i64 0)).setCell ⟨F, 1, none⟩ (.int .i64 0)).heap.size = w2.heap.size := by simp
    have hoff : ∀ g, g ≠ F → ((w2.setCell ⟨F, 0, none⟩ (.int .i64 0)).setCell ⟨F, 1, none⟩ (.int .i64 0)).heap[g]? = w2.heap[g]? := fun g hg => by
      rw [Below.heap_setCell _ _ _ _ hg, Below.heap_setCell _ _ _ _ hg]
    have hbs2 : W1.heap.size ≤ w2.heap.size := hB2.size
    have LX0 : Lies ((w2.setCell ⟨F, 0, none⟩ (.int .i64 0)).setCell ⟨F, 1, none⟩ (.int .i64 0)) A w.heap.size xs := fun k x hk => by
      obtain ⟨g, e, g1, g2, c0, c1⟩ := hA1 k x hk
      have hh : ((w2.setCell ⟨F, 0, none⟩ (.int .i64 0)).setCell ⟨F, 1, none⟩ (.int .i64 0)).heap[g]? = W1.heap[g]? := (hoff g (by omega)).trans (hB2.block g (by show g < W1.heap.size; omega))
      exact ⟨g, e, g1, by rw [hsz3]; omega, (World.cell?_of_block (a := ⟨g, 2 * k, none⟩) hh).trans c0, (World.cell?_of_block (a := ⟨g, 2 * k + 1, none⟩) hh).trans c1⟩
    have LY0 : Lies ((w2.setCell ⟨F, 0, none⟩ (.int .i64 0)).setCell ⟨F, 1, none⟩ (.int .i64 0)) A2 w.heap.size ys := fun k x hk => by
      obtain ⟨g, e, g1, g2, c0, c1⟩ := hA2 k x hk
      have g1' : W1.heap.size ≤ g := g1
      have hh := hoff g (by omega)
      exact ⟨g, e, by omega, by rw [hsz3]; exact g2, (World.cell?_of_block (a := ⟨g, 2 * k, none⟩) hh).trans c0, (World.cell?_of_block (a := ⟨g, 2 * k + 1, none⟩) hh).trans c1⟩
    clear hB2 hB2' hH2 hN2 hF2 f0 f1 y0 y1 hA1 hA2 hoff hsz3 hbs2 hFlt hF hN hB1
    generalize ((w2.setCell ⟨F, 0, none⟩ (.int .i64 0)).setCell ⟨F, 1, none⟩ (.int .i64 0)) = W3 at hN3 hF3 hB3 LX0 LY0 ⊢
    have LX := hide LX0
    have LY := hide LY0
    clear LX0 LY0
    have f0 := hF3.cell 0
    go_upto_block 0 with fail
    clear f0
    go_cut [14] from 60 to 82 (fun c wx => c = .int .i64 (firstR xs ys : Nat) ∧ ∃ n, wx = W3.drewN n)
    case first =>
      go_wp2_with fail
      go_loopw [14] (fun i wr => ∃ k n : Nat, k ≤ xs.length ∧ k ≤ ys.length ∧ i = .int .i64 k ∧ wr = W3.drewN n ∧ firstR xs ys = k + cpf (xs.drop k) (ys.drop k)) (fun i _ => xs.length - (intOf i).toNat)
      case atStart => exact ⟨0, 0, Nat.zero_le _, Nat.zero_le _, rfl, rfl, by simp [firstR]⟩
      case round =>
        obtain ⟨k, n, hkx', hky', rfl, rfl, hf⟩ := hrel
        have HFK := Lib.hid hf
        clear hf
        by_cases hx : k < xs.length
        · have dx : decide ((k : Int) < xs.length) = true := decide_eq_true (by omega)
          by_cases hy : k < ys.length
          · have dy : decide ((k : Int) < ys.length) = true := decide_eq_true (by omega)
            by_cases he : xs[k] = ys[k]
            · have HO := Lib.hid (cpf_on hx hy he)
              obtain ⟨a, b, g, g', rfl, rfl, d0, d1, e0, e1⟩ := seen_same (unhide LX) (unhide LY) hx hy he
              clear he
              go_wp2_with fail
              go_quiet (fail)
              go_wp2_with fail
              go_roundw
              case rel => exact ⟨k + 1, n + nq, by omega, by omega, by go_num, by simp, by rw [HFK.out, HO.out]; omega⟩
              case measure => simp [intOf]; omega
            · have HFIN := Lib.hid (show firstR xs ys = k by rw [HFK.out, cpf_off hx hy he]; rfl)
              rcases seen_other (unhide LX) (unhide LY) hx hy he with ⟨a, b, d, ⟨g, g', rfl, rfl, d0, d1, e0, e1⟩, hdb⟩ | ⟨a, b, c, d, ⟨g, g', rfl, rfl, d0, d1, e0, e1⟩, hca⟩
              all_goals
                clear he
                go_wp2_with fail
                go_quiet (fail)
                go_wp2_with fail
                go_meet
                exact ⟨by rw [HFIN.out], _, World.drewN_drewN _ _ _⟩
          · have dy : decide ((k : Int) < ys.length) = false := decide_eq_false (by omega)
            have HFIN := Lib.hid (show firstR xs ys = k by rw [HFK.out, cpf_end (.inr (by omega))]; rfl)
            go_wp2_with fail
            go_quiet (fail)
            go_wp2_with fail
            go_meet
            exact ⟨by rw [HFIN.out], _, World.drewN_drewN _ _ _⟩
        · have dx : decide ((k : Int) < xs.length) = false := decide_eq_false (by omega)
          have HFIN := Lib.hid (show firstR xs ys = k by rw [HFK.out, cpf_end (.inl (by omega))]; rfl)
          go_wp2_with fail
          go_quiet (fail)
          go_wp2_with fail
          go_meet
          exact ⟨by rw [HFIN.out], _, World.drewN_drewN _ _ _⟩
    case rest =>
      obtain ⟨rfl, n1, rfl⟩ := hcut
      have hk12 := cpf_le xs ys
      obtain ⟨k, hk⟩ : ∃ k, firstR xs ys = k := ⟨_, rfl⟩
      have hkx : k ≤ xs.length := by rw [← hk]; exact hk12.1
      have hky : k ≤ ys.length := by rw [← hk]; exact hk12.2
      have HFIN := Lib.hid hk
      rw [hk]
      obtain ⟨X, hX⟩ : ∃ X, xs.reverse.take (min xs.length ys.length - k) = X := ⟨_, rfl⟩
      obtain ⟨Y, hY⟩ : ∃ Y, ys.reverse = Y := ⟨_, rfl⟩
      have hXl : X.length = min xs.length ys.length - k := by rw [← hX]; simp; omega
      have hYl : Y.length = ys.length := by rw [← hY]; simp
      have hXi : ∀ j (h : j < X.length), ∃ (h' : xs.length - 1 - j < xs.length), X[j] = xs[xs.length - 1 - j] := fun j h => by
        subst hX
        exact ⟨by omega, by simp [List.getElem_take, List.getElem_reverse]⟩
      have hYi : ∀ j (h : j < Y.length), ∃ (h' : ys.length - 1 - j < ys.length), Y[j] = ys[ys.length - 1 - j] := fun j h => by
        subst hY
        exact ⟨by omega, by simp [List.getElem_reverse]⟩
      have hlast : lastR xs ys = cpf X Y := by unfold lastR; rw [hk, hX, hY]
      have HXI := hide hXi
      have HYI := hide hYi
      have HLA := Lib.hid hlast
      obtain ⟨m, hm⟩ : ∃ m, min xs.length ys.length = m := ⟨_, rfl⟩
      rw [hm] at hXl
      have hm1 : m ≤ xs.length := by omega
      have hm2 : m ≤ ys.length := by omega
      have hm3 : m = xs.length ∨ m = ys.length := by omega
      clear hX hY hXi hYi hlast hk hk12 hm
      have n0 := hN3.cell 0
      have n1c := hN3.cell 1
      have z0 := hN3.frozen 0
      have z1 := hN3.frozen 1
      go_wp2_with fail
      go_loopw [15] (fun i wr => ∃ j n : Nat, j ≤ m - k ∧ i = .int .i64 j ∧ wr = W3.drewN n ∧ lastR xs ys = j + cpf (X.drop j) (Y.drop j)) (fun i _ => m - (intOf i).toNat)
      case atStart => exact ⟨0, n1, Nat.zero_le _, rfl, rfl, by rw [HLA.out]; simp⟩
      case round =>
        obtain ⟨j, n', hj, rfl, rfl, hf⟩ := hrel
        have HFJ := Lib.hid hf
        clear hf
        by_cases hx : k + j < xs.length
        · have dx : decide ((k : Int) + (j : Int) < xs.length) = true := decide_eq_true (by omega)
          by_cases hy : k + j < ys.length
          · have dy : decide ((k : Int) + (j : Int) < ys.length) = true := decide_eq_true (by omega)
            have jX : j < X.length := by omega
            have jY : j < Y.length := by omega
            obtain ⟨q1, r1⟩ := unhide HXI j jX
            obtain ⟨q2, r2⟩ := unhide HYI j jY
            obtain ⟨p, hp⟩ : ∃ p, xs.length - 1 - j = p := ⟨_, rfl⟩
            obtain ⟨q, hq⟩ : ∃ q, ys.length - 1 - j = q := ⟨_, rfl⟩
            have hpi : (xs.length : Int) - 1 - j = p := by omega
            have hqi : (ys.length : Int) - 1 - j = q := by omega
            by_cases he : X[j] = Y[j]
            · have HO := Lib.hid (cpf_on jX jY he)
              rw [r1, r2] at he
              have hS := seen_same (unhide LX) (unhide LY) q1 q2 he
              rw [hp, hq] at hS
              obtain ⟨a, b, g, g', rfl, rfl, d0, d1, e0, e1⟩ := hS
              clear he r1 r2 hp hq
              go_wp2_with fail
              go_quiet (fail)
              go_wp2_with fail
              go_roundw
              case rel => exact ⟨j + 1, n' + nq, by omega, by go_num, by simp, by rw [HFJ.out, HO.out]; omega⟩
              case measure => simp [intOf]; omega
            · have HLF := Lib.hid (show lastR xs ys = j by rw [HFJ.out, cpf_off jX jY he]; rfl)
              rw [r1, r2] at he
              have hS := seen_other (unhide LX) (unhide LY) q1 q2 he
              rw [hp, hq] at hS
              rcases hS with ⟨a, b, d, ⟨g, g', rfl, rfl, d0, d1, e0, e1⟩, hdb⟩ | ⟨a, b, c, d, ⟨g, g', rfl, rfl, d0, d1, e0, e1⟩, hca⟩
              all_goals
                clear he r1 r2 hp hq
                go_wp2_with fail
                go_quiet (fail)
                go_wp2_with fail
                have hZ := (((hN3.drewN (n' + nq)).set 0 (.int .i64 0)).set 1 (.int .i64 0))
                have hc0 := hZ.cell 0
                have hc1 := hZ.cell 1
                refine bodyPost_ret (v := .tuple #[.int .i64 k, .int .i64 j, .agg #[.int .i64 0, .int .i64 0]]) ?_ rfl ⟨by rw [HFIN.out, HLF.out], ((below_drewN' hB3 _).setCell (Nat.le_refl _) _).setCell (Nat.le_refl _) _⟩
                clear hZ
                revert hc0 hc1
                generalize ((W3.drewN (n' + nq)).setCell ⟨w.heap.size, 0, none⟩ (.int .i64 0)).setCell ⟨w.heap.size, 1, none⟩ (.int .i64 0) = Z
                intro hc0 hc1
                simp [results, Tryz.results43, go_sem, hc0, hc1]
          · have dy : decide ((k : Int) + (j : Int) < ys.length) = false := decide_eq_false (by omega)
            have HLF := Lib.hid (show lastR xs ys = j by rw [HFJ.out, cpf_end (.inl (by omega))]; rfl)
            go_wp2_with fail
            go_quiet (fail)
            go_wp2_with fail
            have hZ := (((hN3.drewN (n' + nq)).set 0 (.int .i64 0)).set 1 (.int .i64 0))
            have hc0 := hZ.cell 0
            have hc1 := hZ.cell 1
            refine bodyPost_ret (v := .tuple #[.int .i64 k, .int .i64 j, .agg #[.int .i64 0, .int .i64 0]]) ?_ rfl ⟨by rw [HFIN.out, HLF.out], ((below_drewN' hB3 _).setCell (Nat.le_refl _) _).setCell (Nat.le_refl _) _⟩
            clear hZ
            revert hc0 hc1
            generalize ((W3.drewN (n' + nq)).setCell ⟨w.heap.size, 0, none⟩ (.int .i64 0)).setCell ⟨w.heap.size, 1, none⟩ (.int .i64 0) = Z
            intro hc0 hc1
            simp [results, Tryz.results43, go_sem, hc0, hc1]
        · have dx : decide ((k : Int) + (j : Int) < xs.length) = false := decide_eq_false (by omega)
          have HLF := Lib.hid (show lastR xs ys = j by rw [HFJ.out, cpf_end (.inl (by omega))]; rfl)
          go_wp2_with fail
          go_quiet (fail)
          go_wp2_with fail
          have hZ := (((hN3.drewN (n' + nq)).set 0 (.int .i64 0)).set 1 (.int .i64 0))
          have hc0 := hZ.cell 0
          have hc1 := hZ.cell 1
          refine bodyPost_ret (v := .tuple #[.int .i64 k, .int .i64 j, .agg #[.int .i64 0, .int .i64 0]]) ?_ rfl ⟨by rw [HFIN.out, HLF.out], ((below_drewN' hB3 _).setCell (Nat.le_refl _) _).setCell (Nat.le_refl _) _⟩
          clear hZ
          revert hc0 hc1
          generalize ((W3.drewN (n' + nq)).setCell ⟨w.heap.size, 0, none⟩ (.int .i64 0)).setCell ⟨w.heap.size, 1, none⟩ (.int .i64 0) = Z
          intro hc0 hc1
          simp [results, Tryz.results43, go_sem, hc0, hc1]
end Go.Proofs.YteknngncnbfbnaaGreatDoor
