/- The reference's Bare hands back what Bare does. -/
import Derived.Test.YteknngncnbfbnaaGreatDoorRq
import Derived.RangeFuncNested
import Derived.RangeFuncBound
import Derived.RangeFuncCalls
import Derived.RangeFuncLeaves
import Derived.RangeFuncBox
import Derived.Shelf.Abstract
import Derived.WalkKit
import Derived.OwnWalkIn
import Derived.TacticsInMore
import Derived.LoopNIn
import Derived.LoopIn
import Derived.RecoverIn
import Derived.Maps.AppendAt
import Derived.Outline
import Derived.Handy
import Derived.Deep.LoopGhost
import Derived.RegionTactic
import Derived.ChangeAlike
import Derived.Deep.QuietTactic
import Derived.BigQuiet
import Derived.StillTailTactics
import Derived.Deep.RegionWith
import Derived.LoopTactic
import Derived.OwnWalk
import Derived.Deep.AppendLies
import Derived.Deep.DeepCutAuto
import Derived.KernelRfl
namespace Go.Proofs.YteknngncnbfbnaaGreatDoor
open Go Go.RowKit Go.Shelf
theorem goL_kinds : ∀ (f : Nat) (l : List UInt8), (∀ x ∈ (goL f l).1, x.1 ≤ 8) ∧ (cat (goL f l).1).length ≤ l.length
  | 0, _ => ⟨fun x hx => (by cases hx), Nat.zero_le _⟩
  | _ + 1, [] => ⟨fun x hx => (by cases hx), Nat.zero_le _⟩
  | f + 1, c :: l => by
    cases hf : firstL (c :: l) with
    | bad y => rw [goL_bad (by simp) hf]; exact ⟨fun x hx => (by cases hx), Nat.zero_le _⟩
    | ok kd n =>
      obtain ⟨_, h8, _, hn⟩ := firstL_ok hf
      obtain ⟨i1, i2⟩ := goL_kinds f ((c :: l).drop n)
      rw [goL_ok (by simp) hf]
      refine ⟨fun x hx => ?_, ?_⟩
      · rcases List.mem_cons.1 hx with rfl | hx
        · exact h8
        · exact i1 x hx
      · show (cat ((kd, mkS ((c :: l).take n)) :: (goL f ((c :: l).drop n)).1)).length ≤ _
        rw [cat_cons, List.length_append, bs_mkS, List.length_take]
        rw [List.length_drop] at i2
        omega
theorem pcs_bounds (l : List UInt8) : (∀ x ∈ (pcsL l).1, x.1 ≤ 8) ∧ (cat (pcsL l).1).length ≤ 20000 := by
  unfold pcsL
  split
  · exact ⟨fun x hx => (by cases hx), Nat.zero_le _⟩
  next h =>
    have := goL_kinds l.length l
    split
    next ys m hg => rw [hg] at this; exact ⟨this.1, Nat.le_trans this.2 (by omega)⟩
    · exact ⟨fun x hx => (by cases hx), Nat.zero_le _⟩
def byV (l : List UInt8) : List Value := l.map fun c => .int .u8 (c.toNat : Int)
theorem byV_snoc (l : List UInt8) (c : UInt8) : byV (l ++ [c]) = byV l ++ [.int .u8 (c.toNat : Int)] := by simp [byV]
theorem byV_len (l : List UInt8) : (byV l).length = l.length := by simp [byV]
theorem info5 : (Tryz.prog.info? 5).map (fun i => (i.zero, i.size, i.bytes)) = some (some (.int .u8 0), 1, 1) := by kernel_rfl
theorem barB_at {kd : Nat} {t : ByteArray} (h8 : kd ≤ 8) {i : Nat} (hi : i < t.size) : (barB (kd, t)).take (i + 1) = (barB (kd, t)).take i ++ [if 6 < kd then blk8 t[i] else t[i]] := by
  have hl : i < (bs t).length := by rw [bs_len]; exact hi
  have hg : (bs t)[i] = t[i] := by
    have := bs_get t i hi
    rw [List.getElem?_eq_getElem hl] at this
    injection this
  unfold barB
  by_cases h : 6 < kd
  · rw [if_pos (by show kd = 7 ∨ kd = 8; omega), if_pos h]
    unfold blankedL
    rw [← List.map_take, ← List.map_take, List.take_succ_eq_append_getElem hl, List.map_append, hg]; rfl
  · rw [if_neg (by show ¬ (kd = 7 ∨ kd = 8); omega), if_neg h]
    show (bs t).take (i + 1) = (bs t).take i ++ [t[i]]
    rw [List.take_succ_eq_append_getElem hl, hg]
theorem barB_len (x : Bit) : (barB x).length = x.2.size := by
  unfold barB blankedL
  split
  · rw [List.length_map, bs_len]
  · rw [bs_len]
theorem bareL_end (xs : List Bit) (x : Bit) : bareL (xs ++ [x]) = bareL xs ++ barB x := by
  unfold bareL barB
  rw [List.flatMap_append]; simp
theorem bareL_take_le (xs : List Bit) (k : Nat) : (bareL (xs.take k)).length ≤ (cat xs).length := by
  rw [bareL_len]
  conv => rhs; rw [← List.take_append_drop k xs, cat_app, List.length_append]
  omega
set_option maxRecDepth 100000 in
set_option maxHeartbeats 4000000 in
theorem refBare_eq (s : ByteArray) (w : World) : Calls Tryz.prog 35 #[.string s] w (BarePost w (bareL (pcsL (bs s)).1) (pcsL (bs s)).2.1 (pcsL (bs s)).2.2) := by
  have hc := refPieces_eq s (w.alloc (.cells #[.int .i64 0, .int .i64 0] 34))
  have hbd := pcs_bounds (bs s)
  have hxl := (pcsL_le (bs s)).1
  revert hc hbd hxl
  generalize pcsL (bs s) = p
  obtain ⟨xs, x, l⟩ := p
  intro hc hbd hxl
  simp only at hc hbd hxl ⊢
  obtain ⟨hk8, hct⟩ := hbd
  have HK := Lib.hid hk8
  clear hk8
  have HC := hide hc
  clear hc
  obtain ⟨i0, hi, hz0, hz1, hz2⟩ := info_parts info5
  go_enter Tryz.func35, Tryz.ntmps35
  go_wp2_with (go_at_call 31; refine (unhide HC).mono ?_; rintro e w1 ⟨v, rfl, hH, hB⟩; obtain ⟨A, cap, rfl, hA⟩ := hH.any)
  obtain ⟨W1, hW1⟩ : ∃ W1, w1.alloc (.cells #[.int .i64 x, .int .i64 l] 34) = W1 := ⟨_, rfl⟩
  rw [hW1]
  have hszz : w.heap.size < w1.heap.size := by have := hB.size; simp at this; omega
  have hN : Blk W1 w.heap.size [.int .i64 0, .int .i64 0] 34 := by
    rw [← hW1]
    exact (Blk.below (Blk.new w [.int .i64 0, .int .i64 0] 34) hB (by simp)).alloc _
  have hF : Blk W1 w1.heap.size [.int .i64 x, .int .i64 l] 34 := by rw [← hW1]; exact Blk.new w1 [.int .i64 x, .int .i64 l] 34
  have hB0 : Below w.heap.size w W1 := by
    rw [← hW1]
    have h1 := ((Below.refl _ w).alloc (Nat.le_refl _) (.cells #[.int .i64 0, .int .i64 0] 34)).trans (hB.mono (by simp))
    exact h1.alloc h1.size _
  clear HC
  have hB1 : w1.heap.size < W1.heap.size := hF.lt
  have hcells : ∀ k x, xs[k]? = some x → ∃ g, A = some ⟨g, 0, none⟩ ∧ g < W1.heap.size ∧ W1.cell? ⟨g, k * 2, none⟩ = some (.int .u8 x.1) ∧ W1.cell? ⟨g, k * 2 + 1, none⟩ = some (.string x.2) := fun k x hk => by
    obtain ⟨g, hg, _, hlt, c0, c1⟩ := hA k x hk
    rw [Nat.mul_comm] at c0 c1
    refine ⟨g, hg, by omega, ?_, ?_⟩
    · rw [← hW1]; exact (World.cell?_alloc_lt w1 _ ⟨g, k * 2, none⟩ hlt).trans c0
    · rw [← hW1]; exact (World.cell?_alloc_lt w1 _ ⟨g, k * 2 + 1, none⟩ hlt).trans c1
  clear hA hH hB hW1
  have HN := hide hN
  have HF := hide hF
  have HCS := hide hcells
  clear hN hF hcells
  go_loopg [6, 17] xs.length (fun g s6 s17 wx => ∃ k : Nat, k + g = xs.length ∧ s17 = .int .i64 k ∧ wx.ownsRow W1.heap.size 5 1 s6 (bareL (xs.take k)).length (byV (bareL (xs.take k))) ∧ (s6 = .slice none 0 0 ↔ bareL (xs.take k) = []) ∧ Below W1.heap.size W1 wx)
  case atStart => exact ⟨0, by omega, rfl, World.ownsRow_nil _ _ _ _, by simp [bareL], Below.refl _ _⟩
  case round =>
    obtain ⟨k, hkg, rfl, hown, hnil, hbel⟩ := hrel
    obtain ⟨wo, rfl⟩ : ∃ wo : World, wo = wr := ⟨_, rfl⟩
    cases gk with
    | zero =>
      obtain rfl : k = xs.length := by omega
      rw [List.take_length] at hown hnil
      have hFw := (unhide HF).below hbel hB1
      have hNw := (unhide HN).below hbel (by omega)
      have f0 := hFw.cell 0
      have f1 := hFw.cell 1
      have n0 := hNw.cell 0
      have n1 := hNw.cell 1
      have z0 := hNw.frozen 0
      have z1 := hNw.frozen 1
      have hcv : (convert 86 9 u6).run Tryz.prog wo.drew = Result.ok (.string (mkS (bareL xs))) wo.drew := by
        by_cases hx : bareL xs = []
        · rw [hnil.2 hx, hx]
          rw [run_convert_bytes_string (P := Tryz.prog) wo.drew 86 9 5 none 0 0 Tryz.underlying86 Tryz.underlying5 Tryz.underlying9]
          simp [Conv.bytesToString]
          rfl
        · obtain ⟨ga, cap2, hv, _, hcl⟩ := World.ownsRow.at_ hown (List.length_pos_iff.2 hx)
          rw [hv]
          refine run_convert_bytes_back (P := Tryz.prog) wo.drew 86 9 5 ⟨ga, 0, none⟩ cap2 (bareL xs) Tryz.underlying86 Tryz.underlying5 Tryz.underlying9 (fun j hj => ?_)
          rw [add_zero_addr]
          exact hcl j _ (by unfold byV; rw [List.getElem?_map, List.getElem?_eq_getElem hj]; rfl)
      clear hown hnil hFw
      obtain ⟨R, hR⟩ : ∃ R, mkS (bareL xs) = R := ⟨_, rfl⟩
      rw [hR] at hcv
      go_wp2
      go_region
      all_goals
        go_wp2
        have hZ := fault_stored (x := x) (l := l) hNw
        have hc0 := hZ.cell 0
        have hc1 := hZ.cell 1
        refine bodyPost_ret (v := .tuple #[.string R, .agg #[.int .i64 x, .int .i64 l]]) ?_ rfl ⟨by rw [hR], (((hB0.trans (hbel.mono hB0.size)).setCell (Nat.le_refl _) _).setCell (Nat.le_refl _) _).drew⟩
        revert hc0 hc1
        generalize ((wo.setCell ⟨w.heap.size, 0, none⟩ (.int .i64 x)).setCell ⟨w.heap.size, 1, none⟩ (.int .i64 l)).drew = Z
        intro hc0 hc1
        simp [results, Tryz.results35, go_sem, hc0, hc1]
    | succ g =>
      have hlt : k < xs.length := by omega
      obtain ⟨ga, rfl, hgl, c0, c1⟩ := unhide HCS k _ (List.getElem?_eq_getElem hlt)
      have HT := Lib.hid (List.take_succ_eq_append_getElem hlt)
      have h8 := HK.out _ (List.getElem_mem hlt)
      have hct2 := bareL_take_le xs (k + 1)
      rw [HT.out, bareL_end, List.length_append, barB_len] at hct2
      have HBS := Lib.hid (bareL_end (xs.take k) xs[k])
      revert c0 c1 h8 hct2 HBS HT
      generalize xs[k] = y
      obtain ⟨kd, t⟩ := y
      intro c0 c1 HT h8 hct2 HBS
      simp only at c0 c1 h8 hct2
      have d0 := (hbel.cell (p := ⟨ga, k * 2, none⟩) hgl).trans c0
      have d1 := (hbel.cell (p := ⟨ga, k * 2 + 1, none⟩) hgl).trans c1
      have C0 := Lib.hid c0
      have C1 := Lib.hid c1
      have HNIL := Lib.hid hnil
      clear c0 c1 hnil
      obtain ⟨pre, hpre⟩ : ∃ pre, bareL (xs.take k) = pre := ⟨_, rfl⟩
      rw [hpre] at hown HBS HNIL hct2
      clear hpre
      go_wp2
      go_loopg [6, 8] t.size (fun g2 s6 s8 wy => ∃ i : Nat, i + g2 = t.size ∧ s8 = .int .i64 i ∧ wy.ownsRow W1.heap.size 5 1 s6 (pre ++ (barB (kd, t)).take i).length (byV (pre ++ (barB (kd, t)).take i)) ∧ (s6 = .slice none 0 0 ↔ pre ++ (barB (kd, t)).take i = []) ∧ Below W1.heap.size W1 wy)
      case atStart => exact ⟨0, by omega, rfl, by simpa using hown, by simpa using HNIL.out, hbel⟩
      case round =>
        obtain ⟨i, hig, rfl, hown, hnil, hbel⟩ := hrel
        cases gk with
        | zero =>
          obtain rfl : i = t.size := by omega
          rw [show t.size = (barB (kd, t)).length from (barB_len (kd, t)).symm, List.take_length] at hown hnil
          have HNIL2 := Lib.hid hnil
          have e1 := (hbel.cell (p := ⟨ga, k * 2 + 1, none⟩) hgl).trans C1.out
          clear hnil
          go_wp2
          go_roundg g
          case measure => omega
          case rel =>
            refine ⟨k + 1, by omega, by go_num, ?_, ?_, hbel⟩
            · rw [HT.out, HBS.out]; exact hown
            · rw [HT.out, HBS.out]; exact HNIL2.out
        | succ g2 =>
          have hit : i < t.size := by omega
          have e0 := (hbel.cell (p := ⟨ga, k * 2, none⟩) hgl).trans C0.out
          have e1 := (hbel.cell (p := ⟨ga, k * 2 + 1, none⟩) hgl).trans C1.out
          have hbs := hbel.size
          have hat := barB_at h8 hit
          have hbl : ((barB (kd, t)).take i).length ≤ t.size := by rw [List.length_take, barB_len]; omega
          have hpl : (pre ++ (barB (kd, t)).take i).length ≤ 20000 := by rw [List.length_append]; omega
          clear hnil hbl
          obtain ⟨q, hq⟩ : ∃ q, pre ++ (barB (kd, t)).take i = q := ⟨_, rfl⟩
          rw [hq] at hown hpl
          have hat2 : ∀ c, (barB (kd, t)).take (i + 1) = (barB (kd, t)).take i ++ [c] → pre ++ (barB (kd, t)).take (i + 1) = q ++ [c] := fun c h => by rw [h, ← List.append_assoc, hq]
          clear hq
          by_cases h6 : 6 < kd
          · have h6' : (6 : Int) < kd := by omega
            rw [if_pos h6] at hat
            by_cases h10 : t[i] = 10
            · have hb : ((t[i].toNat : Int) != 10) = false := by rw [h10]; rfl
              have e : blk8 t[i] = t[i] := by unfold blk8; rw [if_pos h10, h10]
              rw [e] at hat
              have HA := Lib.hid (hat2 _ hat)
              clear hat hat2 h10 e
              go_wp2_with (at_builtin; refine wpList_append_own _ rfl _ _ 86 rfl W1.heap.size 5 i0 (.int .u8 0) 1 1 Tryz.underlying86 hi hz0 hz1 hz2 rfl (by decide) _ _ _ rfl (hown.alloc _) ⟨wr.heap.size, 0, none⟩ 1 1 [.int .u8 t[i].toNat] rfl rfl ?c1 ?c2 (by unfold maxLen; omega) (by omega) (by simp; omega) ?_)
              case c1 =>
                intro j u hj
                rw [← hj, add_zero_addr]
                exact (Blk.new wr [.int .u8 t[i].toNat] 5).cell j
              case c2 =>
                intro u hu
                simp at hu
                subst hu; rfl
              intro v' w5 hown' hgrow _
              obtain ⟨g', cap', rfl⟩ := ownsRow_succ hown'
              have hb5 : Below W1.heap.size W1 w5 := by
                refine (hbel.alloc hbs (.cells #[.int .u8 t[i].toNat] 5)).grown hgrow (by simp; omega) (fun j hj => ?_)
                exact (hown.lt j hj).1
              clear hgrow
              go_wp2
              go_roundg g2
              case measure => omega
              case rel =>
                refine ⟨i + 1, by omega, by go_num, ?_, ?_, hb5⟩
                · rw [HA.out, byV_snoc, List.length_append]
                  exact hown'
                · rw [HA.out]; simp
            · have hb : ((t[i].toNat : Int) != 10) = true := by
                rw [bne_iff_ne]
                intro h
                exact h10 (UInt8.toNat_inj.1 (by rw [show (10 : UInt8).toNat = 10 from rfl]; omega))
              have e : blk8 t[i] = 32 := by unfold blk8; rw [if_neg h10]
              rw [e] at hat
              have HA := Lib.hid (hat2 _ hat)
              clear hat hat2 h10 e
              go_wp2_with (at_builtin; refine wpList_append_own _ rfl _ _ 86 rfl W1.heap.size 5 i0 (.int .u8 0) 1 1 Tryz.underlying86 hi hz0 hz1 hz2 rfl (by decide) _ _ _ rfl (hown.alloc _) ⟨wr.heap.size, 0, none⟩ 1 1 [.int .u8 32] rfl rfl ?c1 ?c2 (by unfold maxLen; omega) (by omega) (by simp; omega) ?_)
              case c1 =>
                intro j u hj
                rw [← hj, add_zero_addr]
                exact (Blk.new wr [.int .u8 32] 5).cell j
              case c2 =>
                intro u hu
                simp at hu
                subst hu; rfl
              intro v' w5 hown' hgrow _
              obtain ⟨g', cap', rfl⟩ := ownsRow_succ hown'
              have hb5 : Below W1.heap.size W1 w5 := by
                refine (hbel.alloc hbs (.cells #[.int .u8 32] 5)).grown hgrow (by simp; omega) (fun j hj => ?_)
                exact (hown.lt j hj).1
              clear hgrow
              go_wp2
              go_roundg g2
              case measure => omega
              case rel =>
                refine ⟨i + 1, by omega, by go_num, ?_, ?_, hb5⟩
                · rw [HA.out, byV_snoc, List.length_append]
                  exact hown'
                · rw [HA.out]; simp
          · have h6' : ¬ (6 : Int) < kd := by omega
            rw [if_neg h6] at hat
            have HA := Lib.hid (hat2 _ hat)
            clear hat hat2
            go_wp2_with (at_builtin; refine wpList_append_own _ rfl _ _ 86 rfl W1.heap.size 5 i0 (.int .u8 0) 1 1 Tryz.underlying86 hi hz0 hz1 hz2 rfl (by decide) _ _ _ rfl (hown.alloc _) ⟨wr.heap.size, 0, none⟩ 1 1 [.int .u8 t[i].toNat] rfl rfl ?c1 ?c2 (by unfold maxLen; omega) (by omega) (by simp; omega) ?_)
            case c2 => rfl
            intro v' w5 hown' hgrow _
            obtain ⟨g', cap', rfl⟩ := ownsRow_succ hown'
            have hb5 : Below W1.heap.size W1 w5 := by
              refine (hbel.alloc hbs (.cells #[.int .u8 t[i].toNat] 5)).grown hgrow (by simp; omega) (fun j hj => ?_)
              exact (hown.lt j hj).1
            clear hgrow
            go_wp2
            go_roundg g2
            case measure => omega
            case rel =>
              refine ⟨i + 1, by omega, by go_num, ?_, ?_, hb5⟩
              · rw [HA.out, byV_snoc, List.length_append]
                exact hown'
              · rw [HA.out]; simp
end Go.Proofs.YteknngncnbfbnaaGreatDoor
