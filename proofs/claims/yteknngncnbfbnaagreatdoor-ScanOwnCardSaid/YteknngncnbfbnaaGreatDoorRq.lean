/- The reference's Scan hands back what Scan does. -/
import Derived.Test.YteknngncnbfbnaaGreatDoorSb
import Derived.RangeFuncNested
import Derived.RangeFuncBound
import Derived.RangeFuncCalls
import Derived.RangeFuncLeaves
import Derived.RangeFuncBox
import Derived.Shelf.Abstract
import Derived.WalkKit
import Derived.OwnWalkIn
import Derived.TacticsInMore
import Derived.LoopNIn
import Derived.LoopIn
import Derived.RecoverIn
import Derived.Maps.AppendAt
import Derived.Outline
import Derived.Handy
import Derived.Deep.LoopGhost
import Derived.RegionTactic
import Derived.ChangeAlike
import Derived.Deep.QuietTactic
import Derived.BigQuiet
import Derived.StillTailTactics
import Derived.Deep.RegionWith
import Derived.LoopTactic
import Derived.OwnWalk
import Derived.Deep.AppendLies
import Derived.Deep.DeepCutAuto
import Derived.KernelRfl
namespace Go.Proofs.YteknngncnbfbnaaGreatDoor
open Go Go.RowKit Go.Shelf
theorem goL_sizes : ∀ (f : Nat) (l : List UInt8), ∀ x ∈ (goL f l).1, x.2.size ≤ l.length
  | 0, _, x, hx => by cases hx
  | _ + 1, [], x, hx => by cases hx
  | f + 1, c :: l, x, hx => by
    unfold goL at hx
    cases hf : firstL (c :: l) with
    | bad y => rw [hf] at hx; cases hx
    | ok kd n =>
      rw [hf] at hx
      rcases List.mem_cons.1 hx with rfl | hx
      · show (mkS ((c :: l).take n)).size ≤ _
        rw [← bs_len, bs_mkS, List.length_take]; omega
      · have := goL_sizes f ((c :: l).drop n) x hx
        rw [List.length_drop] at this; omega
theorem pcs_sizes (l : List UInt8) : ∀ x ∈ (pcsL l).1, x.2.size ≤ 20000 := by
  intro x hx
  unfold pcsL at hx
  split at hx
  · cases hx
  next h =>
    split at hx
    next ys m hg =>
      have := goL_sizes l.length l x (by rw [hg]; exact hx)
      omega
    · cases hx
set_option maxRecDepth 100000 in
set_option maxHeartbeats 4000000 in
theorem refScan_eq (s : ByteArray) (w : World) : Calls Tryz.prog 33 #[.string s] w (ScanPost w (pcsL (bs s)).1 (pcsL (bs s)).2.1 (pcsL (bs s)).2.2) := by
  have hc := refPieces_eq s (w.alloc (.cells #[.int .i64 0, .int .i64 0] 34))
  have hlen : (pcsL (bs s)).1.length ≤ 20000 ∧ nlB (pcsL (bs s)).1 ≤ 20000 := pcsL_le (bs s)
  have hsz := pcs_sizes (bs s)
  revert hc hlen hsz
  generalize pcsL (bs s) = p
  obtain ⟨xs, x, l⟩ := p
  intro hc hlen hsz
  simp only at hc hlen hsz ⊢
  have HSZ := Lib.hid hsz
  clear hsz
  have HC := hide hc
  clear hc
  obtain ⟨i0, hi, hz0, hz1, hz2⟩ := info_parts info56
  go_enter Tryz.func33, Tryz.ntmps33
  go_wp2_with (go_at_call 31; refine (unhide HC).mono ?_; rintro e w1 ⟨v, rfl, hH, hB⟩; obtain ⟨A, cap, rfl, hA⟩ := hH.any)
  obtain ⟨W1, hW1⟩ : ∃ W1, w1.alloc (.cells #[.int .i64 x, .int .i64 l] 34) = W1 := ⟨_, rfl⟩
  rw [hW1]
  have hszz : w.heap.size < w1.heap.size := by have := hB.size; simp at this; omega
  have hN : Blk W1 w.heap.size [.int .i64 0, .int .i64 0] 34 := by
    rw [← hW1]
    exact (Blk.below (Blk.new w [.int .i64 0, .int .i64 0] 34) hB (by simp)).alloc _
  have hF : Blk W1 w1.heap.size [.int .i64 x, .int .i64 l] 34 := by rw [← hW1]; exact Blk.new w1 [.int .i64 x, .int .i64 l] 34
  have hB0 : Below w.heap.size w W1 := by
    rw [← hW1]
    have h1 := ((Below.refl _ w).alloc (Nat.le_refl _) (.cells #[.int .i64 0, .int .i64 0] 34)).trans (hB.mono (by simp))
    exact h1.alloc h1.size _
  clear HC
  have hB1 : w1.heap.size < W1.heap.size := hF.lt
  have hcells : ∀ k x, xs[k]? = some x → ∃ g, A = some ⟨g, 0, none⟩ ∧ g < W1.heap.size ∧ W1.cell? ⟨g, 2 * k, none⟩ = some (.int .u8 x.1) ∧ W1.cell? ⟨g, 2 * k + 1, none⟩ = some (.string x.2) := fun k x hk => by
    obtain ⟨g, hg, _, hlt, c0, c1⟩ := hA k x hk
    refine ⟨g, hg, by omega, ?_, ?_⟩
    · rw [← hW1]; exact (World.cell?_alloc_lt w1 _ ⟨g, 2 * k, none⟩ hlt).trans c0
    · rw [← hW1]; exact (World.cell?_alloc_lt w1 _ ⟨g, 2 * k + 1, none⟩ hlt).trans c1
  clear hA hH hB hW1
  have HN := hide hN
  have HF := hide hF
  have HCS := hide hcells
  clear hN hF hcells
  go_loopw [6, 7, 16] (fun t L i wr => ∃ k : Nat, k ≤ xs.length ∧ i = .int .i64 k ∧ L = .int .i64 (1 + nlB (xs.take k) : Nat) ∧ ScanI W1 xs k t wr) (fun _ _ i _ => xs.length - (intOf i).toNat)
  case atStart => exact ⟨0, Nat.zero_le _, rfl, rfl, World.ownsRow_nil _ _ _ _, by simp [toksL], Below.refl _ _⟩
  case round =>
    obtain ⟨k, hk, rfl, rfl, hown, hnil, hbel⟩ := hrel
    by_cases hlt : k < xs.length
    · have hgk : xs[k]? = some xs[k] := List.getElem?_eq_getElem hlt
      obtain ⟨g, rfl, hgl, c0, c1⟩ := unhide HCS k _ hgk
      have d0 : wr.cell? ⟨g, k * 2, none⟩ = some (.int .u8 xs[k].1) := by rw [Nat.mul_comm]; exact (hbel.cell (p := ⟨g, 2 * k, none⟩) hgl).trans c0
      have d1 : wr.cell? ⟨g, k * 2 + 1, none⟩ = some (.string xs[k].2) := by rw [Nat.mul_comm]; exact (hbel.cell (p := ⟨g, 2 * k + 1, none⟩) hgl).trans c1
      have C1 := Lib.hid (show W1.cell? ⟨g, k * 2 + 1, none⟩ = some (.string xs[k].2) by rw [Nat.mul_comm]; exact c1)
      clear c0 c1 hgk
      have HT := Lib.hid (List.take_succ_eq_append_getElem hlt)
      have htl := Nat.le_trans (toksL_len (xs.take k) 1) (List.length_take_le k xs)
      have hnl2 := nlB_take_le xs (k + 1)
      rw [HT.out, nlB_snoc] at hnl2
      have HS := Lib.hid (toksL_snoc (xs.take k) xs[k] 1)
      have HNL := Lib.hid (nlB_snoc (xs.take k) xs[k])
      obtain ⟨L, hL⟩ : ∃ L, 1 + nlB (xs.take k) = L := ⟨_, rfl⟩
      obtain ⟨M, hM⟩ : ∃ M, nl (bs xs[k].2) = M := ⟨_, rfl⟩
      have hcnt := fun W => feeds_any xs[k].2 (by have := HSZ.out _ (List.getElem_mem hlt); omega) W
      rw [hL]
      rw [hM] at hnl2 hcnt
      have hLM : L + M ≤ 20001 := by omega
      have HL := Lib.hid hL
      have HM := Lib.hid hM
      have HCNT := hide hcnt
      have HNIL := Lib.hid hnil
      have hbs := hbel.size
      clear hL hM hcnt hnl2 hnil
      by_cases h5 : xs[k].1 ≤ 5
      · have h5' : ((xs[k].1 : Nat) : Int) ≤ 5 := by omega
        have hnews : ∀ (j : Nat) (u : Value), ([.int .u8 xs[k].1, .string xs[k].2, .int .i64 L] : List Value)[j]? = some u → (wr.alloc (.cells #[.int .u8 xs[k].1, .string xs[k].2, .int .i64 L] 56)).drew.cell? ((⟨wr.heap.size, 0, none⟩ : Addr).add j) = some u := by
          intro j u hj
          rw [← hj, add_zero_addr]
          exact ((Blk.new wr [.int .u8 xs[k].1, .string xs[k].2, .int .i64 L] 56).drew).cell j
        have h1s : ∀ u ∈ ([.int .u8 xs[k].1, .string xs[k].2, .int .i64 L] : List Value), u.oneCell' = true := by
          intro u hu
          simp at hu
          rcases hu with rfl | rfl | rfl <;> rfl
        go_wp2_with fail
        go_region_law (refine step_append_lies _ rfl (.tmp 25) (.tmp 38) 40 rfl W1.heap.size 56 i0 (.agg #[.int .u8 0, .string ⟨#[]⟩, .int .i64 0]) 3 32 Tryz.underlying40 hi hz0 hz1 hz2 rfl (by decide) _ _ _ (by simp [Act.eval]) ((hown.alloc _).drew) ⟨wr.heap.size, 0, none⟩ 1 1 [.int .u8 xs[k].1, .string xs[k].2, .int .i64 L] (by simp [Act.eval]) rfl hnews h1s (by decide) (by unfold maxLen; omega) (by omega) (by simp; omega) _ rfl ?_; intro g' cap' w5 hown' hgrow hat' hlt5)
        all_goals
          have hbw : Below W1.heap.size W1 w5 := by
            have h1 := ((hbel.alloc hbel.size (.cells #[.int .u8 xs[k].1, .string xs[k].2, .int .i64 L] 56))).drew
            refine h1.grown hgrow (by show W1.heap.size ≤ (wr.alloc _).heap.size; simp; omega) (fun j hj => ?_)
            exact (hown.lt j hj).1
          have e1 : w5.cell? ⟨g, k * 2 + 1, none⟩ = some (.string xs[k].2) := (hbw.cell (p := ⟨g, k * 2 + 1, none⟩) hgl).trans C1.out
          clear hgrow hnews h1s hat' hlt5
          go_wp2_with (go_at_call 67; refine (unhide HCNT _).mono ?_; rintro e w4 ⟨rfl, rfl⟩)
          go_roundw
          case rel =>
            have e1 : toksL 1 (xs.take (k + 1)) = toksL 1 (xs.take k) ++ [(xs[k].1, xs[k].2, L)] := by rw [HT.out, HS.out, if_pos h5, HL.out]
            have e2 : flatT (toksL 1 (xs.take k) ++ [(xs[k].1, xs[k].2, L)]) = flatT (toksL 1 (xs.take k)) ++ [.int .u8 xs[k].1, .string xs[k].2, .int .i64 L] := by simp [flatT]
            refine ⟨k + 1, by omega, by go_num, ?_, ?_, ?_, hbw⟩
            · rw [HT.out, HNL.out, HM.out, ← Nat.add_assoc, HL.out]; simp
            · rw [e1, e2, List.length_append]; exact hown'
            · rw [e1]; simp
          case measure => simp [intOf]; omega
      · have h5' : ¬ ((xs[k].1 : Nat) : Int) ≤ 5 := by omega
        go_wp2_with (go_at_call 67; refine (unhide HCNT _).mono ?_; rintro e w4 ⟨rfl, rfl⟩)
        go_roundw
        case rel =>
          have e1 : toksL 1 (xs.take (k + 1)) = toksL 1 (xs.take k) := by rw [HT.out, HS.out, if_neg h5, List.append_nil]
          refine ⟨k + 1, by omega, by go_num, ?_, ?_, ?_, hbel⟩
          · rw [HT.out, HNL.out, HM.out, ← Nat.add_assoc, HL.out]; simp
          · rw [e1]; exact hown
          · rw [e1]; exact HNIL.out
        case measure => simp [intOf]; omega
    · obtain rfl : k = xs.length := by omega
      rw [List.take_length] at hown hnil
      have HNIL := Lib.hid hnil
      clear hnil
      have hF := (unhide HF).below hbel hB1
      have hNw := (unhide HN).below hbel (by omega)
      have f0 := hF.cell 0
      have f1 := hF.cell 1
      have n0 := hNw.cell 0
      have n1 := hNw.cell 1
      have z0 := hNw.frozen 0
      have z1 := hNw.frozen 1
      go_wp2
      go_region
      all_goals
        go_wp2
        have hZ := fault_stored (x := x) (l := l) hNw
        have hc0 := hZ.cell 0
        have hc1 := hZ.cell 1
        refine bodyPost_ret (v := .tuple #[u6, .agg #[.int .i64 x, .int .i64 l]]) ?_ rfl ⟨u6, rfl, row_base (row_stored _ _ hNw hown (by decide)) hB0.size, HNIL.out, (((hB0.trans (hbel.mono hB0.size)).setCell (Nat.le_refl _) _).setCell (Nat.le_refl _) _).drew⟩
        revert hc0 hc1
        generalize ((wr.setCell ⟨w.heap.size, 0, none⟩ (.int .i64 x)).setCell ⟨w.heap.size, 1, none⟩ (.int .i64 l)).drew = Z
        intro hc0 hc1
        simp [results, Tryz.results33, go_sem, hc0, hc1]
end Go.Proofs.YteknngncnbfbnaaGreatDoor
