/- The reference's Pieces hands back what Pieces does. -/
import Derived.Test.YteknngncnbfbnaaGreatDoorRk
import Derived.Test.YteknngncnbfbnaaGreatDoorMd
import Derived.RangeFuncNested
import Derived.RangeFuncBound
import Derived.RangeFuncCalls
import Derived.RangeFuncLeaves
import Derived.RangeFuncBox
import Derived.Shelf.Abstract
import Derived.WalkKit
import Derived.OwnWalkIn
import Derived.TacticsInMore
import Derived.LoopNIn
import Derived.LoopIn
import Derived.RecoverIn
import Derived.Maps.AppendAt
import Derived.Outline
import Derived.Handy
import Derived.Deep.LoopGhost
import Derived.RegionTactic
import Derived.ChangeAlike
import Derived.Deep.QuietTactic
import Derived.BigQuiet
import Derived.StillTailTactics
import Derived.Deep.RegionWith
import Derived.LoopTactic
import Derived.OwnWalk
import Derived.Deep.AppendLies
import Derived.Deep.DeepCutAuto
import Derived.KernelRfl
namespace Go.Proofs.YteknngncnbfbnaaGreatDoor
open Go Go.RowKit Go.Shelf
theorem row_below {W W' : World} {base e size n : Nat} {v : Value} {xs : List Value} (h : W.ownsRow base e size v n xs) (hb : Below W.heap.size W W') : W'.ownsRow base e size v n xs := by
  refine h.kept (row := none) ⟨hb.os, hb.tape, hb.output, hb.size, fun k hk _ => hb.block k hk⟩ ?_
  cases v.ownBlock with
  | none => exact .inl rfl
  | some g => exact .inr (by simp)
theorem run_snoc' {s : ByteArray} {k kd n : Nat} (hf : firstL ((bs s).drop k) = .ok kd n) (hk : k ≤ s.size) : k + n ≤ s.size := by
  have := (firstL_ok hf).2.2.2
  rw [List.length_drop, bs_len] at this
  omega
theorem flatB_snoc' (xs : List Bit) (x : Bit) : flatB (xs ++ [x]) = flatB xs ++ [.int .u8 x.1, .string x.2] := by simp [flatB]
set_option maxRecDepth 100000 in
set_option maxHeartbeats 4000000 in
theorem refPieces_eq (s : ByteArray) (w : World) : Calls Tryz.prog 31 #[.string s] w (PcsPost w (pcsL (bs s)).1 (pcsL (bs s)).2.1 (pcsL (bs s)).2.2) := by
  have hN0 := Blk.new w [.int .i64 0, .int .i64 0] 34
  have hB0 : Below w.heap.size w (w.alloc (.cells #[.int .i64 0, .int .i64 0] 34)) := (Below.refl _ _).alloc (Nat.le_refl _) _
  by_cases h : 20000 < s.size
  · rw [pcsL_long h]
    have h' : (20000 : Int) < s.size := by omega
    have z0 := hN0.frozen 0
    have z1 := hN0.frozen 1
    have n0 := hN0.cell 0
    have n1 := hN0.cell 1
    go_enter Tryz.func31, Tryz.ntmps31
    go_wp2_with fail
    have hZ := Blk.new w [.int .i64 2, .int .i64 0] 34
    have hc0 := hZ.cell 0
    have hc1 := hZ.cell 1
    refine bodyPost_ret (v := .tuple #[.slice none 0 0, .agg #[.int .i64 2, .int .i64 0]]) ?_ rfl ⟨.slice none 0 0, rfl, ⟨World.ownsRow_nil _ _ _ _, by simp⟩, (Below.refl _ _).alloc (Nat.le_refl _) _⟩
    clear hN0 hB0 z0 z1 n0 n1 hZ
    revert hc0 hc1
    generalize w.alloc (.cells #[.int .i64 2, .int .i64 0] 34) = Z
    intro hc0 hc1
    simp [results, Tryz.results31, go_sem, hc0, hc1]
  · have h' : ¬ (20000 : Int) < s.size := by omega
    obtain ⟨i0, hi, hz0, hz1, hz2⟩ := info_parts info38
    go_enter Tryz.func31, Tryz.ntmps31
    go_wp2_with fail
    generalize w.alloc (.cells #[.int .i64 0, .int .i64 0] 34) = W1 at hN0 hB0 ⊢
    have HN := hide hN0
    clear hN0
    go_loopw [4, 5] (fun t i wr => ∃ (k : Nat) (pre : List Bit), k ≤ s.size ∧ i = .int .i64 k ∧ Hid (Run s k pre) ∧ wr.ownsRow W1.heap.size 38 2 t pre.length (flatB pre) ∧ (t = .slice none 0 0 ↔ pre = []) ∧ Below W1.heap.size W1 wr) (fun _ i _ => s.size - (intOf i).toNat)
    case atStart => exact ⟨0, [], Nat.zero_le _, rfl, Lib.hid .nil, World.ownsRow_nil _ _ _ _, by simp, Below.refl _ _⟩
    case round =>
      obtain ⟨k, pre, hk, rfl, HR, hown, hnil, hbel⟩ := hrel
      by_cases hlt : k < s.size
      · have hf := refFirst_any (s.extract k s.size) (by rw [ByteArray.size_extract]; omega) (by rw [ByteArray.size_extract]; omega) wr
        rw [bs_drop] at hf
        have hlt' : (k : Int) < s.size := by omega
        cases hc : firstL ((bs s).drop k) with
        | bad x =>
          rw [hc] at hf
          have HF := hide hf
          have HP := Lib.hid (pcsL_bad (by omega) hlt HR.out hc)
          have hx := firstL_bad hc
          have hx0 : ((x : Int) != 0) = true := by simp; omega
          have hfe := fun W => feeds_any (s.extract 0 k) (by rw [ByteArray.size_extract]; omega) W
          have hnn := nl_le (bs (s.extract 0 k))
          rw [bs_len, ByteArray.size_extract] at hnn
          have HFE := hide hfe
          clear hf hc hfe
          go_wp2_with fail
          refine (unhide HF).mono ?_
          rintro e w2 ⟨a, b, rfl, hb2⟩
          go_wp2_with fail
          refine (unhide HFE _).mono ?_
          rintro e w3 ⟨rfl, rfl⟩
          have hbw := hbel.trans (hb2.mono hbel.size)
          have hNw := (unhide HN).below hbw (by have := hB0.size; have := (unhide HN).lt; omega)
          have z0 := hNw.frozen 0
          have z1 := hNw.frozen 1
          have n0 := hNw.cell 0
          have n1 := hNw.cell 1
          have hZ := (hNw.set 0 (.int .i64 x)).set 1 (.int .i64 ((1 + nl ((bs s).take k) : Nat) : Int))
          have hBZ := ((hB0.trans (hbw.mono hB0.size)).setCell (p := ⟨w.heap.size, 0, none⟩) (Nat.le_refl _) (.int .i64 x)).setCell (p := ⟨w.heap.size, 1, none⟩) (Nat.le_refl _) (.int .i64 ((1 + nl ((bs s).take k) : Nat) : Int))
          rw [bs_take]
          rw [bs_take] at hnn
          have hnn2 : ((1 + nl ((bs s).take k) : Nat) : Int) = 1 + (nl ((bs s).take k) : Int) := by omega
          rw [hnn2] at hZ hBZ
          clear HF HFE hbel hbw hb2 hown hnil HN hNw
          go_wp2
          have hc0 := hZ.cell 0
          have hc1 := hZ.cell 1
          rw [HP.out]
          refine bodyPost_ret (v := .tuple #[.slice none 0 0, .agg #[.int .i64 x, .int .i64 (1 + (nl ((bs s).take k) : Int))]]) ?_ rfl ⟨.slice none 0 0, by rw [hnn2], ⟨World.ownsRow_nil _ _ _ _, by simp⟩, hBZ⟩
          clear hBZ hZ z0 z1 n0 n1
          revert hc0 hc1
          generalize ((w2.setCell ⟨w.heap.size, 0, none⟩ (.int .i64 x)).setCell ⟨w.heap.size, 1, none⟩ (.int .i64 (1 + (nl ((bs s).take k) : Int)))) = Z
          intro hc0 hc1
          simp [results, Tryz.results31, go_sem, hc0, hc1]
        | ok kd n =>
          rw [hc] at hf
          have HF := hide hf
          have hkn := run_snoc' hc (by omega)
          obtain ⟨hk1, hk8, hn1, _⟩ := firstL_ok hc
          have HR2 := Lib.hid (HR.out.snoc hc)
          have hpl := HR.out.length_le
          clear hf hc
          go_wp2_with fail
          refine (unhide HF).mono ?_
          rintro e w2 ⟨rfl, hb2⟩
          have hown2 := row_below hown hb2
          have hbw := hbel.trans (hb2.mono hbel.size)
          have hw2 := hbw.size
          clear hown hb2 hbel HF
          go_wp2_with (at_builtin; refine wpList_append_own _ rfl _ _ 32 rfl W1.heap.size 38 i0 (.agg #[.int .u8 0, .string ⟨#[]⟩]) 2 24 Tryz.underlying32 hi hz0 hz1 hz2 rfl (by decide) _ _ _ rfl (hown2.alloc _) ⟨w2.heap.size, 0, none⟩ 1 1 [.int .u8 kd, .string (s.extract k (k + n))] rfl rfl ?c1 ?c2 (by unfold maxLen; omega) (by omega) (by simp; omega) ?_)
          case c1 =>
            intro j u hj
            rw [← hj, add_zero_addr]
            exact (Blk.new w2 [.int .u8 kd, .string (s.extract k (k + n))] 38).cell j
          case c2 =>
            intro u hu
            simp at hu
            rcases hu with rfl | rfl <;> rfl
          intro v' w5 hown' hgrow _
          obtain ⟨g', cap', rfl⟩ := ownsRow_succ hown'
          have hb5 : Below W1.heap.size W1 w5 := by
            refine (hbw.alloc hw2 (.cells #[.int .u8 kd, .string (s.extract k (k + n))] 38)).grown hgrow (by simp; omega) (fun j hj => ?_)
            exact (hown2.lt j hj).1
          clear hgrow hbw hw2 hown2
          go_wp2
          go_roundw
          case rel =>
            refine ⟨k + n, pre ++ [(kd, s.extract k (k + n))], hkn, by go_num, HR2, ?_, by simp, hb5⟩
            rw [flatB_snoc', List.length_append]
            exact hown'
          case measure => simp [intOf]; omega
      · obtain rfl : k = s.size := by omega
        have HP := Lib.hid (pcsL_all (by omega) HR.out)
        have hNw := (unhide HN).below hbel (by have := (unhide HN).lt; exact this)
        have n0 := hNw.cell 0
        have n1 := hNw.cell 1
        have z0 := hNw.frozen 0
        have z1 := hNw.frozen 1
        have hBw := hB0.trans (hbel.mono hB0.size)
        have HNIL := Lib.hid hnil
        clear hnil
        go_wp2
        have hZ := (hNw.set 0 (.int .i64 0)).set 1 (.int .i64 0)
        have hc0 := hZ.cell 0
        have hc1 := hZ.cell 1
        rw [HP.out]
        refine bodyPost_ret (v := .tuple #[u4, .agg #[.int .i64 0, .int .i64 0]]) ?_ rfl ⟨u4, rfl, ⟨row_base (row_stored _ _ hNw hown (by decide)) hB0.size, HNIL.out⟩, (hBw.setCell (Nat.le_refl _) _).setCell (Nat.le_refl _) _⟩
        revert hc0 hc1
        generalize ((wr.setCell ⟨w.heap.size, 0, none⟩ (.int .i64 0)).setCell ⟨w.heap.size, 1, none⟩ (.int .i64 0)) = Z
        intro hc0 hc1
        simp [results, Tryz.results31, go_sem, hc0, hc1]
end Go.Proofs.YteknngncnbfbnaaGreatDoor
