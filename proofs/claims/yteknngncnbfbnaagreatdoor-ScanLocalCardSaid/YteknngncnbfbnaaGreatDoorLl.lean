/- ScanLocal's function returns true, whatever it is called with (where the variables it reads hold what the program's text lays). -/
import Derived.Test.YteknngncnbfbnaaGreatDoorMx
import Derived.Test.YteknngncnbfbnaaGreatDoorLw
import Derived.RangeFuncNested
import Derived.RangeFuncBound
import Derived.RangeFuncCalls
import Derived.RangeFuncLeaves
import Derived.RangeFuncBox
import Derived.Shelf.Abstract
import Derived.WalkKit
import Derived.OwnWalkIn
import Derived.TacticsInMore
import Derived.LoopNIn
import Derived.LoopIn
import Derived.RecoverIn
import Derived.Maps.AppendAt
import Derived.Outline
import Derived.Handy
import Derived.Deep.LoopGhost
import Derived.RegionTactic
import Derived.ChangeAlike
import Derived.Deep.QuietTactic
import Derived.BigQuiet
import Derived.StillTailTactics
import Derived.Deep.RegionWith
import Derived.LoopTactic
import Derived.OwnWalk
import Derived.Deep.AppendLies
import Derived.Deep.DeepCutAuto
import Derived.KernelRfl
import Derived.Deep.OwnRows
namespace Go.Proofs.YteknngncnbfbnaaGreatDoor
open Go Go.RowKit Go.Shelf
set_option maxRecDepth 100000 in
set_option maxHeartbeats 4000000 in
theorem local_good (s t : ByteArray) (f o : Nat) (h1 : f ≤ o) (h2 : o ≤ s.size) (hs : s.size ≤ 1200) (ht : t.size ≤ 1200) (xs : List Bit) (hp : pcsL (bs s) = (xs, 0, 0)) (ys : List Bit) (hq : pcsL (bs (midS s t f o)) = (ys, 0, 0)) (w : World) (hE : Env w) (hD : Db w) :
    Calls Tryz.prog 10 #[.string s, .int .i64 f, .int .i64 o, .string t] w fun e w' => e = .returned (.bool true) ∧ Below w.heap.size w w' := by
  have hs' : ¬ (1200 : Int) < s.size := by omega
  have ht' : ¬ (1200 : Int) < t.size := by omega
  have c42 := fun W hE => again_ok s t f o h1 h2 (by omega) (by omega) xs hp ys hq W hE
  have c29 := fun W hE => pieces_eq s W hE
  rw [hp] at c29
  have c29b : ∀ W, Env W → Calls Tryz.prog 29 #[.string (s.extract 0 f ++ t ++ s.extract o s.size)] W (PcsPost W ys 0 0) := fun W hW => by
    have := pieces_eq (midS s t f o) W hW
    rw [hq] at this
    exact this
  have hxl := (pcsL_le (bs s)).1
  rw [hp] at hxl
  have hyl := (pcsL_le (bs (midS s t f o))).1
  rw [hq] at hyl
  simp only at hxl hyl
  have px := (pcsL_ok hp).1
  have py := (pcsL_ok hq).1
  have hcx : (cat xs).length = s.size := by rw [pcs_cat px, bs_len]
  have hcy := cat_mid_le s t f o h1 h2 py
  obtain ⟨hFL1, hFL2⟩ := firstlast_le xs ys
  have HF := Lib.hid (fun k (hk : k < xs.length) hl => local_first s t f o h1 h2 px py hk hl)
  have HL := Lib.hid (fun k j r (hr : (cat (xs.drop k)).length = r) (hr' : (cat (ys.drop j)).length = r) hro hF hG hk => local_last s t f o h1 h2 px py hr hr' hro hF hG hk)
  revert HF HL c42 hFL1 hFL2
  generalize firstR xs ys = F
  generalize lastR xs ys = L
  intro c42 hFL1 hFL2 HF HL
  have H42 := hide c42
  have H29 := hide c29
  have H29b := hide c29b
  clear c42 c29 c29b hp hq px py
  have d1 : ¬ (F : Int) < 0 := by omega
  have d2 : ¬ (L : Int) < 0 := by omega
  have d3 : ¬ (xs.length : Int) < (F : Int) + (L : Int) := by omega
  have d4 : ¬ (ys.length : Int) < (F : Int) + (L : Int) := by omega
  obtain ⟨i0, hi0, hz0, hz1, hz2⟩ := info_parts info4
  go_enter Tryz.func10, Tryz.ntmps10
  go_wp2_with fail
  refine (unhide H42 _ hE).mono ?_
  rintro e1 w1 ⟨rfl, hb1⟩
  have K1 := (Cells.nil w1).fault 0 0
  have B1 := hb1.alloc hb1.size (.cells #[.int .i64 0, .int .i64 0] 34)
  have a0 := K1.get (a := ⟨w1.heap.size, 0, none⟩) (v := .int .i64 0) (by simp)
  clear hb1 K1
  go_wp2_with fail
  clear a0
  generalize w1.alloc (.cells #[.int .i64 0, .int .i64 0] 34) = V1 at B1 ⊢
  refine (unhide H29 V1 (hE.below B1 hE.sz)).mono ?_
  rintro e2 w2 ⟨v2, rfl, hH2, hb2⟩
  obtain ⟨A1, c1, rfl, hA⟩ := hH2.bits
  have K2 := (Cells.nil w2).fault 0 0
  have B2 := (B1.trans (hb2.mono B1.size)).alloc (Nat.le_trans B1.size hb2.size) (.cells #[.int .i64 0, .int .i64 0] 34)
  have P2 := hA.below ((Below.refl w2.heap.size w2).alloc (Nat.le_refl _) (.cells #[.int .i64 0, .int .i64 0] 34))
  clear hb2 hH2 hA B1 H42 H29
  go_upto_region 7 with fail
  generalize w2.alloc (.cells #[.int .i64 0, .int .i64 0] 34) = V2 at K2 B2 P2 ⊢
  generalize w2.heap.size = n2 at K2 ⊢
  go_cut [14, 15] from 57 to 69 (fun b p wx => ∃ A2 c2 n3, b = .slice A2 ys.length c2 ∧ p = .pointer (some ⟨n3, 0, none⟩) ∧ wx.cell? ⟨n3, 0, none⟩ = some (.int .i64 0) ∧ wx.cell? ⟨n2, 0, none⟩ = some (.int .i64 0) ∧ (Bits wx A1 xs ∧ Bits wx A2 ys) ∧ Below w.heap.size w wx)
  case first =>
    have hF := Blk.new V2 [.int .i64 0, .int .i64 0] 34
    have al := (Below.refl V2.heap.size V2).alloc (Nat.le_refl _) (.cells #[.int .i64 0, .int .i64 0] 34)
    have hE2 : Env (V2.alloc (.cells #[.int .i64 0, .int .i64 0] 34)).drew := ((hE.below B2 hE.sz).alloc _).drew
    have hE2' : Env V2.drew := (hE.below B2 hE.sz).drew
    have hsz : (V2.alloc (.cells #[.int .i64 0, .int .i64 0] 34)).heap.size = V2.heap.size + 1 := by simp
    go_region_with (go_at_call 29; first
      | (refine (unhide H29b _ hE2).mono ?_; clear H29b; rintro e3 w3 ⟨v3, rfl, hH3, hb3⟩; obtain ⟨A2, c2, rfl, hA2⟩ := hH3.any; have hF2 := Blk.below (Blk.drewN hF 1) hb3 hF.lt; have f0 := hF2.cell 0; have f1 := hF2.cell 1; have y0 := hF2.frozen 0; have y1 := hF2.frozen 1)
      | (refine (unhide H29b _ hE2').mono ?_; clear H29b; rintro e3 w3 ⟨v3, rfl, hH3, hb3⟩; obtain ⟨A2, c2, rfl, hA2⟩ := hH3.bits; have KB := (Cells.below (W := V2.drew) K2 hb3).fault 0 0))
    all_goals first
      | (have hF3 := (hF2.set 0 (.int .i64 0)).set 1 (.int .i64 0)
         have BB : Below V2.heap.size V2 ((w3.setCell ⟨V2.heap.size, 0, none⟩ (.int .i64 0)).setCell ⟨V2.heap.size, 1, none⟩ (.int .i64 0)) := ((al.drew.trans (hb3.mono al.size)).setCell (Nat.le_refl _) (.int .i64 0)).setCell (Nat.le_refl _) (.int .i64 0)
         have hsz3 : ((w3.setCell ⟨V2.heap.size, 0, none⟩ (.int .i64 0)).setCell ⟨V2.heap.size, 1, none⟩ (.int .i64 0)).heap.size = w3.heap.size := by simp
         have hoff : ∀ g, g ≠ V2.heap.size → ((w3.setCell ⟨V2.heap.size, 0, none⟩ (.int .i64 0)).setCell ⟨V2.heap.size, 1, none⟩ (.int .i64 0)).heap[g]? = w3.heap[g]? := fun g hg => by
           rw [Below.heap_setCell _ _ _ _ hg, Below.heap_setCell _ _ _ _ hg]
         have Q3 : Bits ((w3.setCell ⟨V2.heap.size, 0, none⟩ (.int .i64 0)).setCell ⟨V2.heap.size, 1, none⟩ (.int .i64 0)) A2 ys := fun k x hk => by
           obtain ⟨g, e, g1, g2, c0, c1⟩ := hA2 k x hk
           have g1' : (V2.alloc (.cells #[.int .i64 0, .int .i64 0] 34)).heap.size ≤ g := g1
           have hh := hoff g (by omega)
           rw [Nat.mul_comm] at c0 c1
           exact ⟨g, e, by rw [hsz3]; exact g2, (World.cell?_of_block (a := ⟨g, k * 2, none⟩) hh).trans c0, (World.cell?_of_block (a := ⟨g, k * 2 + 1, none⟩) hh).trans c1⟩
         clear f0 f1 y0 y1
         go_wp2_with fail
         go_meet
         case rel => exact ⟨A2, c2, _, rfl, rfl, hF3.cell 0, (K2.below BB).get (by simp), ⟨P2.below BB, Q3⟩, B2.trans (BB.mono B2.size)⟩)
      | (go_wp2_with fail
         go_meet
         case rel =>
           have al3 := (Below.refl w3.heap.size w3).alloc (Nat.le_refl _) (.cells #[.int .i64 0, .int .i64 0] 34)
           have P2' : Bits V2.drew A1 xs := P2
           exact ⟨A2, c2, _, rfl, rfl, KB.get (by simp), KB.get (by simp), ⟨(P2'.below hb3).below al3, hA2.below al3⟩, (B2.drew.trans (hb3.mono B2.size)).alloc (Nat.le_trans B2.size hb3.size) _⟩)
  case rest =>
    obtain ⟨A2, c2, n3, rfl, rfl, f0, e0, hI, B3⟩ := hcut
    have HI := Lib.hid hI
    clear hI K2 P2 B2 H29b
    have hcx2 : (cat xs).length ≤ 1200 := by omega
    go_wp2_with fail
    clear f0 e0
    go_loopw [16, 104] (fun a i wr => ∃ k : Nat, k ≤ xs.length ∧ i = .int .i64 k ∧ a = .int .i64 (cat (xs.take k)).length ∧ wr = wc) (fun _ i _ => xs.length - (intOf i).toNat)
    case atStart => exact ⟨0, Nat.zero_le _, rfl, rfl, rfl⟩
    case round =>
      obtain ⟨k, hk, rfl, rfl, hw⟩ := hrel
      rw [hw]
      clear hw
      by_cases hlt : k < xs.length
      · obtain ⟨g, rfl, hg, _, c1'⟩ := HI.out.1 k _ (List.getElem?_eq_getElem hlt)
        have hst := cat_take_step hlt
        have hle := cat_take_le xs (k + 1)
        have hcon : ¬ ((cat (xs.take k)).length + xs[k].2.size < f ∧ F ≤ k) := by
          intro h
          have := HF.out k hlt (by rw [hst]; exact h.1)
          omega
        have HS := Lib.hid hst
        have hb : (cat (xs.take k)).length + xs[k].2.size ≤ 1200 := by omega
        clear hst hle
        revert c1' HS hcon hb
        generalize xs[k].2 = u
        generalize (cat (xs.take k)).length = a
        intro c1' hcon HS hb
        by_cases q1 : a + u.size < f
        · have q1' : (a : Int) + (u.size : Int) < f := by omega
          have q2 : ¬ (F : Int) ≤ k := by omega
          clear hcon
          go_wp2_with fail
          go_roundw
          case rel => exact ⟨k + 1, by omega, by go_num, by rw [HS.out]; simp, (by first | trivial | rfl)⟩
          case measure => simp [intOf] <;> omega
        · have q1' : ¬ (a : Int) + (u.size : Int) < f := by omega
          clear hcon
          go_wp2_with fail
          go_roundw
          case rel => exact ⟨k + 1, by omega, by go_num, by rw [HS.out]; simp, (by first | trivial | rfl)⟩
          case measure => simp [intOf] <;> omega
      · obtain rfl : k = xs.length := by omega
        rw [List.take_length]
        go_wp2_with (at_make; refine wpList_make_row _ rfl _ _ 57 rfl 4 i0 (.bool false) Tryz.underlying57 hi0 hz0 hz1 rfl .i64 .i64 (s.size + t.size + 1) (by simp [Act.eval]) (by simp [Act.eval]) (by rw [hz2]; omega) (by omega) ?_)
        have R4 : (wc.alloc (.cells (madeCells #[.bool false] (s.size + t.size + 1)) 4)).rowIs wc.heap.size 4 (s.size + t.size + 1) (fun _ => .bool false) := World.rowIs_made _ _ _ _
        have B4 : Below wc.heap.size wc (wc.alloc (.cells (madeCells #[.bool false] (s.size + t.size + 1)) 4)) := (Below.refl _ _).alloc (Nat.le_refl _) _
        generalize wc.alloc (.cells (madeCells #[.bool false] (s.size + t.size + 1)) 4) = W4 at R4 B4 ⊢
        go_loopw [19, 20] (fun a i wr => ∃ (k : Nat) (R : Nat → Bool), k ≤ ys.length ∧ i = .int .i64 ((k : Int) - 1) ∧ a = .int .i64 (cat (ys.drop k)).length ∧ (∀ r, R r = true → ∃ j, (cat (ys.drop j)).length = r) ∧ wr.rowIs wc.heap.size 4 (s.size + t.size + 1) (fun r => .bool (R r)) ∧ Below wc.heap.size wc wr) (fun _ i _ => (intOf i + 1).toNat)
        case atStart => exact ⟨ys.length, fun _ => false, Nat.le_refl _, rfl, by rw [List.drop_length]; rfl, (fun r h => by cases h), R4, B4⟩
        case round =>
          clear R4 B4
          obtain ⟨k, R, hk, rfl, rfl, hR, hrow, BW⟩ := hrel
          have HR := Lib.hid hR
          clear hR
          cases k with
          | succ j =>
            rw [show ((j + 1 : Nat) : Int) - 1 = j by omega]
            have hlt : j < ys.length := hk
            obtain ⟨g, rfl, hg, _, c1'⟩ := HI.out.2.below BW j _ (List.getElem?_eq_getElem hlt)
            have hst := cat_drop_step hlt
            have hle := cat_drop_le ys j
            have HS := Lib.hid hst
            have hb : (cat (ys.drop (j + 1))).length + ys[j].2.size ≤ s.size + t.size := by omega
            clear hst hle
            revert c1' HS hb
            generalize ys[j].2 = u
            generalize (cat (ys.drop (j + 1))).length = a
            intro c1' HS hb
            have e0 := hrow.cell (i := a + u.size) (by omega)
            have z0 := hrow.frozen (a + u.size)
            go_wp2_with fail
            go_roundw
            case rel =>
              refine ⟨j, fun r => if r = a + u.size then true else R r, by omega, rfl, by rw [HS.out]; simp, fun r h => ?_, (hrow.set _ _).congr (fun i _ => by by_cases h : i = a + u.size <;> simp [h]), BW.setCell (Nat.le_refl _) _⟩
              by_cases hr : r = a + u.size
              · exact ⟨j, by rw [HS.out, hr]⟩
              · have h : (if r = a + u.size then true else R r) = true := h
                rw [if_neg hr] at h
                exact HR.out r h
            case measure => simp [intOf] <;> omega
          | zero =>
            rw [show ((0 : Nat) : Int) - 1 = -1 by omega, List.drop_zero]
            go_wp2_with fail
            go_loopw [19, 21] (fun a i wx => ∃ k : Nat, k ≤ xs.length ∧ i = .int .i64 ((k : Int) - 1) ∧ a = .int .i64 (cat (xs.drop k)).length ∧ wx = wr) (fun _ i _ => (intOf i + 1).toNat)
            case atStart => exact ⟨xs.length, Nat.le_refl _, rfl, by rw [List.drop_length]; rfl, rfl⟩
            case round =>
              obtain ⟨k, hk2, rfl, rfl, hw⟩ := hrel
              rw [hw]
              clear hw
              cases k with
              | zero =>
                rw [show ((0 : Nat) : Int) - 1 = -1 by omega, List.drop_zero]
                have B9 := B3.trans (BW.mono B3.size)
                go_wp2_with fail
                refine (divided_any _ (hE.below B9 hE.sz) (hD.below B9 (Nat.le_trans (by decide) hE.sz))).mono ?_
                rintro e9 w9 ⟨rfl, hb9⟩
                go_wp2_with fail
                go_ret
                exact ⟨rfl, B9.trans (hb9.mono B9.size)⟩
              | succ j =>
                rw [show ((j + 1 : Nat) : Int) - 1 = j by omega]
                have hlt2 : j < xs.length := hk2
                obtain ⟨g, rfl, hg, _, c1'⟩ := HI.out.1.below BW j _ (List.getElem?_eq_getElem hlt2)
                have hst := cat_drop_step hlt2
                have hle := cat_drop_le xs j
                have hcon : (cat (xs.drop (j + 1))).length + xs[j].2.size + o ≤ s.size → R ((cat (xs.drop (j + 1))).length + xs[j].2.size) = true → F ≤ j → L < xs.length - j → F + (xs.length - j) ≤ ys.length → False := by
                  intro q1 q2 q3 q4 q5
                  obtain ⟨i, hi⟩ := HR.out _ q2
                  have := HL.out j i _ hst hi q1 q3 q5 hlt2
                  omega
                have HS := Lib.hid hst
                have hb : (cat (xs.drop (j + 1))).length + xs[j].2.size ≤ s.size := by omega
                clear hst hle
                revert c1' HS hb hcon
                generalize xs[j].2 = u
                generalize (cat (xs.drop (j + 1))).length = a
                intro c1' hcon HS hb
                have e0 := hrow.cell (i := a + u.size) (by omega)
                generalize R (a + u.size) = bv at hcon e0
                by_cases q1 : a + u.size + o ≤ s.size
                · have g1 : (a : Int) + (u.size : Int) ≤ (s.size : Int) - o := by omega
                  cases bv with
                  | false =>
                    clear hcon
                    go_wp2_with fail
                    go_roundw
                    case rel => exact ⟨j, by omega, rfl, by rw [HS.out]; simp, (by first | trivial | rfl)⟩
                    case measure => simp [intOf] <;> omega
                  | true =>
                    by_cases q3 : F ≤ j
                    · have g3 : (F : Int) ≤ j := by omega
                      by_cases q4 : L < xs.length - j
                      · have g4 : (L : Int) < (xs.length : Int) - j := by omega
                        have q5 : ¬ F + (xs.length - j) ≤ ys.length := fun q5 => hcon q1 rfl q3 q4 q5
                        have g5 : ¬ (F : Int) ≤ (ys.length : Int) - ((xs.length : Int) - j) := by omega
                        clear hcon
                        go_wp2_with fail
                        go_roundw
                        case rel => exact ⟨j, by omega, rfl, by rw [HS.out]; simp, (by first | trivial | rfl)⟩
                        case measure => simp [intOf] <;> omega
                      · have g4 : ¬ (L : Int) < (xs.length : Int) - j := by omega
                        clear hcon
                        go_wp2_with fail
                        go_roundw
                        case rel => exact ⟨j, by omega, rfl, by rw [HS.out]; simp, (by first | trivial | rfl)⟩
                        case measure => simp [intOf] <;> omega
                    · have g3 : ¬ (F : Int) ≤ j := by omega
                      clear hcon
                      go_wp2_with fail
                      go_roundw
                      case rel => exact ⟨j, by omega, rfl, by rw [HS.out]; simp, (by first | trivial | rfl)⟩
                      case measure => simp [intOf] <;> omega
                · have g1 : ¬ (a : Int) + (u.size : Int) ≤ (s.size : Int) - o := by omega
                  clear hcon
                  go_wp2_with fail
                  go_roundw
                  case rel => exact ⟨j, by omega, rfl, by rw [HS.out]; simp, (by first | trivial | rfl)⟩
                  case measure => simp [intOf] <;> omega
set_option maxRecDepth 100000 in
theorem local_law (s : ByteArray) (f o : Int) (t : ByteArray) (w : World) (hE : Env w) (hD : Db w) : Calls Tryz.prog 10 #[.string s, .int .i64 f, .int .i64 o, .string t] w fun e w' => e = .returned (.bool true) ∧ Below w.heap.size w w' := by
  by_cases hs : s.size ≤ 1200
  · by_cases ht : t.size ≤ 1200
    · rcases again_alone s t f o (by omega) (by omega) with ⟨x, l, hx, h1⟩ | ⟨f', o', rfl, rfl, h1, h2, xs, ys, hp, hq⟩
      · exact local_err s t f o x l hx h1 hs ht w hE hD
      · exact local_good s t f' o' h1 h2 hs ht xs hp ys hq w hE hD
    · have hs' : ¬ (1200 : Int) < s.size := by omega
      have ht' : (1200 : Int) < t.size := by omega
      go_enter Tryz.func10, Tryz.ntmps10
      go_wp2_with fail
      refine (divided_any _ hE hD).mono ?_
      rintro e w1 ⟨rfl, hb⟩
      go_wp2_with fail
      go_ret
      exact ⟨rfl, hb⟩
  · have hs' : (1200 : Int) < s.size := by omega
    go_enter Tryz.func10, Tryz.ntmps10
    go_wp2_with fail
    refine (divided_any _ hE hD).mono ?_
    rintro e w1 ⟨rfl, hb⟩
    go_wp2_with fail
    go_ret
    exact ⟨rfl, hb⟩
end Go.Proofs.YteknngncnbfbnaaGreatDoor
