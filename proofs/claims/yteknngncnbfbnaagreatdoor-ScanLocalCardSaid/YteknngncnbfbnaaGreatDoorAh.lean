/- Again, where both sources are in order: how many pieces stay at the begin and at the end. -/
import Derived.Test.YteknngncnbfbnaaGreatDoorAg
import Derived.RangeFuncNested
import Derived.RangeFuncBound
import Derived.RangeFuncCalls
import Derived.RangeFuncLeaves
import Derived.RangeFuncBox
import Derived.Shelf.Abstract
import Derived.WalkKit
import Derived.OwnWalkIn
import Derived.TacticsInMore
import Derived.LoopNIn
import Derived.LoopIn
import Derived.RecoverIn
import Derived.Maps.AppendAt
import Derived.Outline
import Derived.Handy
import Derived.Deep.LoopGhost
import Derived.RegionTactic
import Derived.ChangeAlike
import Derived.Deep.QuietTactic
import Derived.BigQuiet
import Derived.StillTailTactics
import Derived.Deep.RegionWith
import Derived.LoopTactic
import Derived.OwnWalk
import Derived.Deep.AppendLies
import Derived.Deep.DeepCutAuto
import Derived.KernelRfl
import Derived.KernelRfl
namespace Go.Proofs.YteknngncnbfbnaaGreatDoor
open Go Go.RowKit Go.Shelf

theorem below_drewN' {b : Nat} {w w' : World} (h : Below b w w') (n : Nat) : Below b w (w'.drewN n) := ⟨h.os, h.tape, h.output, h.size, h.block⟩
theorem toList_ne {b d : ByteArray} (h : ¬ d = b) : (d.toList == b.toList) = false := by
  cases e : d.toList == b.toList with
  | false => rfl
  | true => exact absurd (bs_ext (by rw [← toList_bs, ← toList_bs]; exact eq_of_beq e)) h
/-- What can be seen of two pieces at places of two slices. -/
def Seen (W : World) (A A2 : Option Addr) (p q : Nat) (a c : Nat) (b d : ByteArray) : Prop := ∃ g g', A = some ⟨g, 0, none⟩ ∧ A2 = some ⟨g', 0, none⟩ ∧ W.cell? ⟨g, p * 2, none⟩ = some (.int .u8 c) ∧ W.cell? ⟨g, p * 2 + 1, none⟩ = some (.string d) ∧ W.cell? ⟨g', q * 2, none⟩ = some (.int .u8 a) ∧ W.cell? ⟨g', q * 2 + 1, none⟩ = some (.string b)
theorem seen_of {W : World} {A A2 : Option Addr} {N : Nat} {xs ys : List Bit} (hx : Lies W A N xs) (hy : Lies W A2 N ys) {p q : Nat} (hp : p < xs.length) (hq : q < ys.length) : Seen W A A2 p q ys[q].1 xs[p].1 ys[q].2 xs[p].2 := by
  obtain ⟨g, e, _, _, c0, c1⟩ := hx p _ (List.getElem?_eq_getElem hp)
  obtain ⟨g', e', _, _, c0', c1'⟩ := hy q _ (List.getElem?_eq_getElem hq)
  refine ⟨g, g', e, e', ?_, ?_, ?_, ?_⟩
  · rw [Nat.mul_comm]; exact c0
  · rw [Nat.mul_comm]; exact c1
  · rw [Nat.mul_comm]; exact c0'
  · rw [Nat.mul_comm]; exact c1'
/-- Two pieces that are alike, or not, as the walk wants to be told it. -/
theorem seen_same {W : World} {A A2 : Option Addr} {N : Nat} {xs ys : List Bit} (hx : Lies W A N xs) (hy : Lies W A2 N ys) {p q : Nat} (hp : p < xs.length) (hq : q < ys.length) (h : xs[p] = ys[q]) : ∃ a b, Seen W A A2 p q a a b b := by
  have := seen_of hx hy hp hq
  rw [h] at this
  exact ⟨_, _, this⟩
theorem seen_other {W : World} {A A2 : Option Addr} {N : Nat} {xs ys : List Bit} (hx : Lies W A N xs) (hy : Lies W A2 N ys) {p q : Nat} (hp : p < xs.length) (hq : q < ys.length) (h : ¬ xs[p] = ys[q]) :
    (∃ a b d, Seen W A A2 p q a a b d ∧ (d.toList == b.toList) = false) ∨ (∃ a b c d, Seen W A A2 p q a c b d ∧ ((c : Int) == (a : Int)) = false) := by
  have hS := seen_of hx hy hp hq
  by_cases e : xs[p].1 = ys[q].1
  · rw [e] at hS
    exact .inl ⟨_, _, _, hS, toList_ne fun e2 => h (Prod.ext e e2)⟩
  · exact .inr ⟨_, _, _, _, hS, by simp; omega⟩
set_option maxRecDepth 100000 in
set_option maxHeartbeats 4000000 in
theorem again_ok (s t : ByteArray) (f o : Nat) (h1 : f ≤ o) (h2 : o ≤ s.size) (hs : s.size ≤ 100000) (ht : t.size ≤ 100000) (xs : List Bit) (hp : pcsL (bs s) = (xs, 0, 0)) (ys : List Bit) (hq : pcsL (bs (midS s t f o)) = (ys, 0, 0)) (w : World) (hE : Env w) : Calls Tryz.prog 42 #[.string s, .int .i64 f, .int .i64 o, .string t] w (AgainPost w (firstR xs ys) (lastR xs ys) 0 0) := by
  have hc := pieces_eq s (w.alloc (.cells #[.int .i64 0, .int .i64 0] 34)) (hE.alloc _)
  rw [hp] at hc
  have HC := hide hc
  have hc2 : ∀ W, Env W → Calls Tryz.prog 29 #[.string (s.extract 0 f ++ t ++ s.extract o s.size)] W (PcsPost W ys 0 0) := fun W hW => by
    have := pieces_eq (midS s t f o) W hW
    rw [hq] at this
    exact this
  have HC2 := hide hc2
  have hlx := (pcsL_le (bs s)).1
  rw [hp] at hlx
  have hly := (pcsL_le (bs (midS s t f o))).1
  rw [hq] at hly
  simp only at hlx hly
  clear hc hp hc2 hq
  go_enter Tryz.func42, Tryz.ntmps42
  go_wp2_with (go_at_call 29; refine (unhide HC).mono ?_; clear HC; rintro e w1 ⟨v, rfl, hH, hB⟩; obtain ⟨A, cap, rfl, hA⟩ := hH.any; have hN := Blk.below (Blk.new w [.int .i64 0, .int .i64 0] 34) hB (by simp); have n0 := hN.cell 0; have n1 := hN.cell 1; have z0 := hN.frozen 0; have z1 := hN.frozen 1)
  have hA1 : Lies w1 A w.heap.size xs := fun k x hk => by
    obtain ⟨g, e, h1, h2, h3⟩ := hA k x hk
    exact ⟨g, e, by simp at h1; omega, h2, h3⟩
  obtain ⟨W1, hW1⟩ : ∃ W1, (w1.setCell ⟨w.heap.size, 0, none⟩ (.int .i64 0)).setCell ⟨w.heap.size, 1, none⟩ (.int .i64 0) = W1 := ⟨_, rfl⟩
  have hN1 : Blk W1 w.heap.size [.int .i64 0, .int .i64 0] 34 := by rw [← hW1]; exact (hN.set 0 _).set 1 _
  have hB1 : Below w.heap.size w W1 := by
    rw [← hW1]
    have h0 := ((Below.refl _ w).alloc (Nat.le_refl _) (.cells #[.int .i64 0, .int .i64 0] 34)).trans (hB.mono (by simp))
    exact (h0.setCell (Nat.le_refl _) _).setCell (Nat.le_refl _) _
  have hA2 : Lies W1 A w.heap.size xs := by
    rw [← hW1]
    exact hA1.to (by simp) (fun g h1 _ => (Below.heap_setCell _ _ _ _ (by simp; omega)).trans (Below.heap_setCell _ _ _ _ (by simp; omega)))
  have hE1 : Env W1 := hE.below hB1 hE.sz
  rw [hW1]
  clear hW1 hN n0 n1 z0 z1 hB hH hA1 hA
  go_region_with (go_at_call 29; refine (unhide HC2 _ hE1.drew).mono ?_; clear HC2; rintro e w2 ⟨v2, rfl, hH2, hB2⟩; obtain ⟨A2, cap2, rfl, hA3⟩ := hH2.any; have hN2 := Blk.below (Blk.drewN hN1 1) hB2 hN1.lt; have n0 := hN2.cell 0; have n1 := hN2.cell 1; have z0 := hN2.frozen 0; have z1 := hN2.frozen 1)
  all_goals
    have hA4 : Lies w2 A2 w.heap.size ys := fun k x hk => by
      obtain ⟨g, e, h1, h2, h3⟩ := hA3 k x hk
      have := hN1.lt
      exact ⟨g, e, by simp at h1; omega, h2, h3⟩
    have hA5 : Lies w2 A w.heap.size xs := hA2.to (W' := w2) hB2.size (fun g _ hg => hB2.block g hg)
    obtain ⟨W2, hW2⟩ : ∃ W2, (w2.setCell ⟨w.heap.size, 0, none⟩ (.int .i64 0)).setCell ⟨w.heap.size, 1, none⟩ (.int .i64 0) = W2 := ⟨_, rfl⟩
    have hN3 : Blk W2 w.heap.size [.int .i64 0, .int .i64 0] 34 := by rw [← hW2]; exact (hN2.set 0 _).set 1 _
    have hB3 : Below w.heap.size w W2 := by
      rw [← hW2]
      exact ((hB1.drew.trans (hB2.mono hB1.size)).setCell (Nat.le_refl _) _).setCell (Nat.le_refl _) _
    have hA6 : Lies W2 A w.heap.size xs := by
      rw [← hW2]
      exact hA5.to (by simp) (fun g h1 _ => (Below.heap_setCell _ _ _ _ (by simp; omega)).trans (Below.heap_setCell _ _ _ _ (by simp; omega)))
    have hA7 : Lies W2 A2 w.heap.size ys := by
      rw [← hW2]
      exact hA4.to (by simp) (fun g h1 _ => (Below.heap_setCell _ _ _ _ (by simp; omega)).trans (Below.heap_setCell _ _ _ _ (by simp; omega)))
    rw [hW2]
    clear hW2 hA2 hA3 hA4 hA5 hN1 hN2 n0 n1 z0 z1 hB2 hB1 hE1 hE hH2
    have LX := hide hA6
    have LY := hide hA7
    clear hA6 hA7
    have n0 := hN3.cell 0
    have n1 := hN3.cell 1
    have z0 := hN3.frozen 0
    have z1 := hN3.frozen 1
    obtain ⟨m, hm⟩ : ∃ m, min xs.length ys.length = m := ⟨_, rfl⟩
    have HM := Lib.hid hm
    have hm1 : m ≤ xs.length := by omega
    have hm2 : m ≤ ys.length := by omega
    have hmi : min (xs.length : Int) (ys.length : Int) = m := by omega
    clear hm
    go_wp2
    try rw [hmi]
    go_loopw [8] (fun i wr => ∃ k n : Nat, k ≤ m ∧ i = .int .i64 k ∧ wr = W2.drewN n ∧ firstR xs ys = k + cpf (xs.drop k) (ys.drop k)) (fun i _ => m - (intOf i).toNat)
    case atStart => exact ⟨0, 0, Nat.zero_le _, rfl, rfl, by simp [firstR]⟩
    case round =>
      obtain ⟨k, n, hk, rfl, rfl, hf⟩ := hrel
      have HF := Lib.hid hf
      clear hf
      by_cases hst : ∃ h : k < m, xs[k] = ys[k]
      · obtain ⟨hlt, he⟩ := hst
        have hkx : k < xs.length := by omega
        have hky : k < ys.length := by omega
        have HO := Lib.hid (cpf_on hkx hky he)
        obtain ⟨a, b, g, g', rfl, rfl, d0, d1, e0, e1⟩ := seen_same (unhide LX) (unhide LY) hkx hky he
        go_wp2
        go_quiet (fail)
        go_wp2
        go_roundw
        case rel => exact ⟨k + 1, n + nq, by omega, by go_num, by simp, by rw [HF.out, HO.out]; omega⟩
        case measure => simp [intOf]; omega
      · have hfin : firstR xs ys = k := by
          rw [HF.out]
          by_cases hlt : k < m
          · rw [cpf_off (by omega) (by omega) (fun e => hst ⟨hlt, e⟩)]; rfl
          · rw [cpf_end (by omega)]; rfl
        have h3 : ¬ k < m ∨ (k < m ∧ (∃ a b d, Seen W2 A A2 k k a a b d ∧ (d.toList == b.toList) = false)) ∨ (k < m ∧ (∃ a b c d, Seen W2 A A2 k k a c b d ∧ ((c : Int) == (a : Int)) = false)) := by
          by_cases hlt : k < m
          · rcases seen_other (unhide LX) (unhide LY) (show k < xs.length by omega) (show k < ys.length by omega) (fun e => hst ⟨hlt, e⟩) with h | h
            · exact .inr (.inl ⟨hlt, h⟩)
            · exact .inr (.inr ⟨hlt, h⟩)
          · exact .inl hlt
        clear hst HF
        have HFIN := Lib.hid hfin
        clear hfin
        rcases h3 with hlt | ⟨hlt, a, b, d, ⟨g, g', hA, hA2, d0, d1, e0, e1⟩, hdb⟩ | ⟨hlt, a, b, c, d, ⟨g, g', hA, hA2, d0, d1, e0, e1⟩, hca⟩
        all_goals
          go_wp2
          go_quiet (fail)
          try clear hdb
          try clear hca
          try clear d0 d1 e0 e1 hA hA2
          clear hlt
          obtain ⟨X, hX⟩ : ∃ X, xs.reverse.take (m - k) = X := ⟨_, rfl⟩
          obtain ⟨Y, hY⟩ : ∃ Y, ys.reverse = Y := ⟨_, rfl⟩
          have hXl : X.length = m - k := by rw [← hX]; simp; omega
          have hYl : Y.length = ys.length := by rw [← hY]; simp
          have hXi : ∀ j (h : j < X.length), ∃ (h' : xs.length - 1 - j < xs.length), X[j] = xs[xs.length - 1 - j] := fun j h => by
            subst hX
            exact ⟨by omega, by simp [List.getElem_take, List.getElem_reverse]⟩
          have hYi : ∀ j (h : j < Y.length), ∃ (h' : ys.length - 1 - j < ys.length), Y[j] = ys[ys.length - 1 - j] := fun j h => by
            subst hY
            exact ⟨by omega, by simp [List.getElem_reverse]⟩
          have hlast : lastR xs ys = cpf X Y := by unfold lastR; rw [HM.out, HFIN.out, hX, hY]
          have HXI := hide hXi
          have HYI := hide hYi
          have HLA := Lib.hid hlast
          clear hX hY hXi hYi hlast
          go_wp2
          go_loopw [9] (fun i wr => ∃ j n : Nat, j ≤ m - k ∧ i = .int .i64 j ∧ wr = W2.drewN n ∧ lastR xs ys = j + cpf (X.drop j) (Y.drop j)) (fun i _ => m - (intOf i).toNat)
          case atStart => exact ⟨0, _, Nat.zero_le _, rfl, World.drewN_drewN _ _ _, by rw [HLA.out]; simp⟩
          case round =>
            obtain ⟨j, n', hj, rfl, rfl, hf⟩ := hrel
            have HF := Lib.hid hf
            clear hf
            by_cases hst : ∃ (h : j < X.length) (h' : j < Y.length), X[j] = Y[j]
            · obtain ⟨hlt, hlt', he⟩ := hst
              have HO := Lib.hid (cpf_on hlt hlt' he)
              obtain ⟨q1, r1⟩ := unhide HXI j hlt
              obtain ⟨q2, r2⟩ := unhide HYI j hlt'
              rw [r1, r2] at he; clear r1 r2
              obtain ⟨p, hp⟩ : ∃ p, xs.length - 1 - j = p := ⟨_, rfl⟩
              obtain ⟨q, hq⟩ : ∃ q, ys.length - 1 - j = q := ⟨_, rfl⟩
              have hS := seen_same (unhide LX) (unhide LY) q1 q2 he
              rw [hp, hq] at hS
              obtain ⟨a, b, g, g', hA, hA2, d0, d1, e0, e1⟩ := hS
              have hpi : (xs.length : Int) - 1 - j = p := by omega
              have hqi : (ys.length : Int) - 1 - j = q := by omega
              have hg : (j : Int) < (m : Int) - k := by omega
              have hd : decide ((j : Int) < (m : Int) - k) = true := decide_eq_true hg
              clear he
              go_wp2
              go_quiet (fail)
              go_wp2
              go_roundw
              case rel => exact ⟨j + 1, n' + nq, by omega, by go_num, by simp, by rw [HF.out, HO.out]; omega⟩
              case measure => simp [intOf]; omega
            · have hfin : lastR xs ys = j := by
                rw [HF.out]
                by_cases hlt : j < X.length ∧ j < Y.length
                · rw [cpf_off hlt.1 hlt.2 (fun e => hst ⟨hlt.1, hlt.2, e⟩)]; rfl
                · rw [cpf_end (by omega)]; rfl
              have h3 : ¬ j < m - k ∨ (j < m - k ∧ ∃ p q : Nat, ((xs.length : Int) - 1 - j = p ∧ p < xs.length) ∧ ((ys.length : Int) - 1 - j = q ∧ q < ys.length) ∧ ((∃ a b d, Seen W2 A A2 p q a a b d ∧ (d.toList == b.toList) = false) ∨ (∃ a b c d, Seen W2 A A2 p q a c b d ∧ ((c : Int) == (a : Int)) = false))) := by
                by_cases hlt : j < m - k
                · obtain ⟨q1, r1⟩ := unhide HXI j (by omega)
                  obtain ⟨q2, r2⟩ := unhide HYI j (by omega)
                  exact .inr ⟨hlt, _, _, ⟨by omega, q1⟩, ⟨by omega, q2⟩, seen_other (unhide LX) (unhide LY) q1 q2 (fun e => hst ⟨by omega, by omega, by rw [r1, r2]; exact e⟩)⟩
                · exact .inl hlt
              clear hst HF
              have HLF := Lib.hid hfin
              clear hfin
              rcases h3 with hlt | ⟨hlt, p, q, ⟨hpi, hpl⟩, ⟨hqi, hql⟩, ⟨a, b, d, ⟨g, g', hA, hA2, d0, d1, e0, e1⟩, hdb⟩ | ⟨a, b, c, d, ⟨g, g', hA, hA2, d0, d1, e0, e1⟩, hca⟩⟩
              · have hg : ¬ (j : Int) < (m : Int) - k := by omega
                have hd : decide ((j : Int) < (m : Int) - k) = false := decide_eq_false hg
                go_wp2
                go_quiet (fail)
                go_wp2
                have hZ := (((hN3.drewN (n' + nq)).set 0 (.int .i64 0)).set 1 (.int .i64 0))
                have hc0 := hZ.cell 0
                have hc1 := hZ.cell 1
                refine bodyPost_ret (v := .tuple #[.int .i64 k, .int .i64 j, .agg #[.int .i64 0, .int .i64 0]]) ?_ rfl ⟨by rw [HFIN.out, HLF.out], ((below_drewN' hB3 _).setCell (Nat.le_refl _) _).setCell (Nat.le_refl _) _⟩
                clear hZ
                revert hc0 hc1
                generalize ((W2.drewN (n' + nq)).setCell ⟨w.heap.size, 0, none⟩ (.int .i64 0)).setCell ⟨w.heap.size, 1, none⟩ (.int .i64 0) = Z
                intro hc0 hc1
                simp [results, Tryz.results42, go_sem, hc0, hc1]
              all_goals
                have hg : (j : Int) < (m : Int) - k := by omega
                have hd : decide ((j : Int) < (m : Int) - k) = true := decide_eq_true hg
                go_wp2
                go_quiet (fail)
                go_wp2
                have hZ := (((hN3.drewN (n' + nq)).set 0 (.int .i64 0)).set 1 (.int .i64 0))
                have hc0 := hZ.cell 0
                have hc1 := hZ.cell 1
                refine bodyPost_ret (v := .tuple #[.int .i64 k, .int .i64 j, .agg #[.int .i64 0, .int .i64 0]]) ?_ rfl ⟨by rw [HFIN.out, HLF.out], ((below_drewN' hB3 _).setCell (Nat.le_refl _) _).setCell (Nat.le_refl _) _⟩
                clear hZ
                revert hc0 hc1
                generalize ((W2.drewN (n' + nq)).setCell ⟨w.heap.size, 0, none⟩ (.int .i64 0)).setCell ⟨w.heap.size, 1, none⟩ (.int .i64 0) = Z
                intro hc0 hc1
                simp [results, Tryz.results42, go_sem, hc0, hc1]
end Go.Proofs.YteknngncnbfbnaaGreatDoor
