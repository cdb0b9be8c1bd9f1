/- Part 51 of 53: the texts Ye, Zm, Vl, one behind the other. -/
import Derived.Test.YteaokkaidcbdlaaGreatDoorJ50
import Derived.Test.YteaokkaidcbdlaaGreatDoorJ30
import Derived.Tactics
import Derived.Tactics2
import Derived.WalkKit
import Derived.LoopTactic
import Derived.Outline
import Derived.Lib.Hide
import Derived.Handy
import Derived.KernelRfl
import Derived.Deep.LoopGhost
import Derived.CallsIn
import Derived.Deep.QuietTactic
import Derived.BigQuiet
import Derived.Deep.Draws
import Derived.WalkSpells
import Derived.Lib.Walk
import Derived.Lib.Strings
import Derived.Maps.OwnOps
import Derived.Maps.OwnSet
import Derived.Deep.RegionWith
import Derived.StillTailTactics
import Derived.WalkMore
import Derived.RangeFuncNested
import Derived.RangeFuncBound
import Derived.RangeFuncCalls
import Derived.RangeFuncLeaves
import Derived.RangeFuncBox
import Derived.Shelf.Abstract
import Derived.OwnWalkIn
import Derived.TacticsInMore
import Derived.LoopNIn
import Derived.LoopIn
import Derived.RecoverIn
import Derived.Maps.AppendAt
import Derived.RegionTactic
import Derived.ChangeAlike
import Derived.OwnWalk
import Derived.Deep.AppendLies
import Derived.Deep.DeepCutAuto
import Derived.Deep.RegionLaw
import Derived.Deep.RegionHeld3
import Derived.Laws.EntriesVeiled
import Derived.Test.YteaokkaidcbdlaaGreatDoorJ33
import Derived.Test.YteaokkaidcbdlaaGreatDoorJ31
import Derived.Test.YteaokkaidcbdlaaGreatDoorJ45
import Derived.Test.YteaokkaidcbdlaaGreatDoorJ10
import Derived.Test.YteaokkaidcbdlaaGreatDoorJ44
import Derived.Test.YteaokkaidcbdlaaGreatDoorJ24
namespace Go.Proofs.YteaokkaidcbdlaaGreatDoor
open Go Go.RowKit Go.Shelf
end Go.Proofs.YteaokkaidcbdlaaGreatDoor

namespace Go.Proofs.YteaokkaidcbdlaaGreatDoor
open Go Go.RowKit Go.Shelf
theorem checkedR_zero {G : List TyD} {l : List Int} : checkedR G l = 0 ↔ (checkR G).2 = 0 ∧ l.all (idxB G.length) = true := by
  unfold checkedR
  constructor
  · intro h
    split at h
    · rename_i hne; exact absurd h hne
    · rename_i hne
      split at h
      · rename_i hl; exact ⟨by simpa using hne, hl⟩
      · cases h
  · rintro ⟨h1, h2⟩
    rw [if_neg (by simp [h1]), if_pos h2]
theorem check_ty {G : List TyD} (h : (checkR G).2 = 0) (i : Nat) (hi : i < G.length) : tyB G (G.getD i default) = true := by
  unfold checkR at h
  split at h
  · simp at h
  · split at h
    · simp at h
    · rename_i hn
      have hall := firstNo_all (p := tyB G) (l := G) (by
        rcases firstNo_ge (tyB G) G with h1 | h1
        · exact h1
        · exact absurd h1 hn)
      rw [List.getD_eq_getElem?_getD, List.getElem?_eq_getElem hi]
      exact hall _ (List.getElem_mem hi)
end Go.Proofs.YteaokkaidcbdlaaGreatDoor

namespace Go.Proofs.YteaokkaidcbdlaaGreatDoor
open Go Go.RowKit Go.Shelf
structure ToldM (G : List TyD) (i j : Nat) : Prop where
  txt : (textL G i).1 = (textL G j).1 ↔ clF G i = clF G j
  ok : ∀ way, tellsL G (i, j) way = true → clF G i ≠ clF G j ∧ (tellL G (clF G) (i, j)).length ≤ way.length
  right : clF G i ≠ clF G j → tellsL G (i, j) (tellL G (clF G) (i, j)) = true
set_option maxRecDepth 100000 in
set_option maxHeartbeats 16000000 in
theorem told_law' (gv vw : Value) (G : List TyD) (a b : Int) (way : List Int) (W : World) (hM : GrZ G → (checkR G).2 = 0 → ∀ i j, i < G.length → j < G.length → ToldM G i j) (hG : GrAt W gv G) (hq : ∀ t ∈ G, TyZ t ∧ t.kind < 256) (hw : SliceOf 1 (IntAt W) vw way) (hP : P10 W.heap.size W) :
    Calls Tryz.prog 10 #[gv, .int .i64 a, .int .i64 b, vw] W fun e w' => e = .returned (.bool true) ∧ Below W.heap.size W w' := by
  have HL := hide (light_any gv G W hG)
  have HAl := hide (fun w (h : Below W.heap.size W w) => alive_any w (hP.more h))
  obtain ⟨ow, cw, rfl⟩ := hw.form
  cases hlt : lightB G with
  | false =>
    rw [hlt] at HL
    obtain ⟨o, cap, rfl⟩ := hG.form
    clear hG hP hq hw hM
    generalize way.length = n
    go_enter Tryz.func10, Tryz.ntmps10
    go_wp2_with (first | (go_at_call 13; refine (unhide HL).mono ?_; rintro e w1 ⟨rfl, hb1⟩) | (go_at_call 14; refine (unhide HAl _ hb1).mono ?_; rintro e w2 ⟨rfl, hb2⟩))
    go_ret
    exact ⟨rfl, hb1.trans (hb2.mono hb1.size)⟩
  | true =>
    rw [hlt] at HL
    have hz := light_z hq hlt
    by_cases h60 : 60 < way.length
    · have h60' : (60 : Int) < way.length := by omega
      obtain ⟨o, cap, rfl⟩ := hG.form
      clear hG hP hq hw h60 hM
      generalize way.length = n at h60' ⊢
      go_enter Tryz.func10, Tryz.ntmps10
      go_wp2_with (first | (go_at_call 13; refine (unhide HL).mono ?_; rintro e w1 ⟨rfl, hb1⟩) | (go_at_call 14; refine (unhide HAl _ hb1).mono ?_; rintro e w2 ⟨rfl, hb2⟩))
      go_ret
      exact ⟨rfl, hb1.trans (hb2.mono hb1.size)⟩
    · have h60' : ¬ (60 : Int) < way.length := by omega
      have H23 := hide (fun w (h : Below W.heap.size W w) => equal_all gv G a b w (hG.below h) hz)
      have H27 := hide (fun w (h : Below W.heap.size W w) => apart_all gv G a b w (hG.below h) hz)
      have H29 := hide (fun w (h : Below W.heap.size W w) => checkApart_all gv _ G a b way w (hG.below h) hz (hw.mono fun _ _ _ _ => IntAt.go (.below h)))
      have H29b := hide (fun (v : Value) (l : List Int) w (h : Below W.heap.size W w) (hl : SliceOf 1 (IntAt w) v l) => checkApart_all gv v G a b l w (hG.below h) hz hl)
      have H42a := hide (fun w (h : Below W.heap.size W w) => text_all gv G a w (hG.below h) hz (hP.more h))
      have H42b := hide (fun w (h : Below W.heap.size W w) => text_all gv G b w (hG.below h) hz (hP.more h))
      obtain ⟨o, cap, rfl⟩ := hG.form
      by_cases h0 : checkedR G [a, b] = 0
      · obtain ⟨i, j, rfl, rfl, hi, hj⟩ := checked_ij h0
        have hc := (checkedR_zero.1 h0).1
        obtain ⟨m1, m2, m3⟩ := hM hz hc i j hi hj
        have ha0 : checkedR G [(i : Int)] = 0 := checkedR_zero.2 ⟨hc, by simp; exact idxB_iff.2 (by omega)⟩
        have hb0 : checkedR G [(j : Int)] = 0 := checkedR_zero.2 ⟨hc, by simp; exact idxB_iff.2 (by omega)⟩
        have ta : (textL G i).2 = 0 := by unfold textL; rw [if_pos ha0]
        have tb : (textL G j).2 = 0 := by unfold textL; rw [if_pos hb0]
        have he : equalL G i j = (decide (clF G i = clF G j), 0) := by unfold equalL; rw [if_neg (by simp [h0])]; rfl
        have hk : ∀ l, ckApartL G i j l = (tellsL G (i, j) l, 0) := fun l => by unfold ckApartL; rw [if_neg (by simp [h0])]; rfl
        have hap : apartL G i j = if clF G i = clF G j then ([], false, 0) else (tellL G (clF G) (i, j), true, 0) := by unfold apartL; rw [if_neg (by simp [h0])]; rfl
        rw [ta] at H42a
        rw [tb] at H42b
        rw [he] at H23
        rw [hk] at H29
        simp only [hk] at H29b
        rw [hap] at H27
        obtain ⟨S, hS⟩ : ∃ S, (textL G i).1 = S := ⟨_, rfl⟩
        obtain ⟨T, hT⟩ : ∃ T, (textL G j).1 = T := ⟨_, rfl⟩
        rw [hS] at H42a m1
        rw [hT] at H42b m1
        clear ta tb he hk hap ha0 hb0 hS hT hM hG hP hq hlt h0
        obtain ⟨ok, hok⟩ : ∃ b, tellsL G (i, j) way = b := ⟨_, rfl⟩
        rw [hok] at H29
        have m2' := fun h => m2 way (hok.trans h)
        clear m2 hok
        obtain ⟨n, hn⟩ : ∃ n, way.length = n := ⟨_, rfl⟩
        rw [hn] at h60' m2' H29 ⊢
        clear hn h60 hw
        by_cases hs : clF G i = clF G j
        ·
          have hST := m1.2 hs
          subst hST
          have hok : ok = false := by
            cases ok
            · rfl
            · exact absurd hs (m2' rfl).1
          subst hok
          rw [if_pos hs] at H27
          rw [decide_eq_true hs] at H23
          have hss : (S.toList == S.toList) = true := by simp
          clear m1 m2' m3 H29b hs
          go_enter Tryz.func10, Tryz.ntmps10
          go_wp2_with fail
          refine (unhide HL).mono ?_
          rintro e0 w0 ⟨rfl, hb0⟩
          go_wp2_with fail
          refine (unhide H23 _ hb0).mono ?_
          rintro e1 w1 ⟨rfl, hb1⟩
          have L1 := hb0.trans (hb1.mono hb0.size)
          go_wp2_with fail
          refine (unhide H27 _ L1).mono ?_
          rintro e2 w2 ⟨vl, rfl, hr2, hb2⟩
          obtain ⟨o2, c2, rfl⟩ := row_form hr2
          have L2 := L1.trans (hb2.mono L1.size)
          go_wp2_with fail
          refine (unhide H29 _ L2).mono ?_
          rintro e3 w3 ⟨rfl, hb3⟩
          have L3 := hide (L2.trans (hb3.mono L2.size))
          have R3 := hide (Row.below hr2 hb3)
          clear hb0 hb1 hb2 hb3 L1 L2 hr2 HL H23 H27 H29
          go_wp2_with fail
          refine (unhide H42a _ (unhide L3)).mono ?_
          rintro e4 w4 ⟨rfl, hb4⟩
          have L4 := (unhide L3).trans (hb4.mono (unhide L3).size)
          go_wp2_with fail
          refine (unhide H42b _ L4).mono ?_
          rintro e5 w5 ⟨rfl, hb5⟩
          have L5 := hide (L4.trans (hb5.mono L4.size))
          have R5 := hide (Row.below (unhide R3) (hb4.trans (hb5.mono hb4.size)))
          clear hb4 hb5 L4 L3 R3 H42a H42b
          go_wp2_with fail
          refine (unhide HAl _ (unhide L5)).mono ?_
          rintro e6 w6 ⟨rfl, hb6⟩
          go_wp2
          go_ret
          exact ⟨rfl, (unhide L5).trans (hb6.mono (unhide L5).size)⟩
        ·
          have hST : (S.toList == T.toList) = false := by
            rw [Bool.eq_false_iff]
            intro e
            exact hs (m1.1 (ba_inj (by simpa using e)))
          have hright := m3 hs
          have hle : ok = true → (tellL G (clF G) (i, j)).length ≤ n := fun h => (m2' h).2
          rw [if_neg hs] at H27
          rw [decide_eq_false hs] at H23
          simp only at H27 H23
          clear m1 m2' m3 hs
          generalize tellL G (clF G) (i, j) = l at H27 hright hle
          have HRT := Lib.hid hright
          clear hright
          cases ok
          · clear hle
            go_enter Tryz.func10, Tryz.ntmps10
            go_wp2_with fail
            refine (unhide HL).mono ?_
            rintro e0 w0 ⟨rfl, hb0⟩
            go_wp2_with fail
            refine (unhide H23 _ hb0).mono ?_
            rintro e1 w1 ⟨rfl, hb1⟩
            have L1 := hb0.trans (hb1.mono hb0.size)
            go_wp2_with fail
            refine (unhide H27 _ L1).mono ?_
            rintro e2 w2 ⟨vl, rfl, hr2, hb2⟩
            obtain ⟨o2, c2, rfl⟩ := row_form hr2
            have L2 := L1.trans (hb2.mono L1.size)
            go_wp2_with fail
            refine (unhide H29 _ L2).mono ?_
            rintro e3 w3 ⟨rfl, hb3⟩
            have L3 := hide (L2.trans (hb3.mono L2.size))
            have R3 := hide (Row.below hr2 hb3)
            clear hb0 hb1 hb2 hb3 L1 L2 hr2 HL H23 H27 H29
            go_wp2_with fail
            refine (unhide H42a _ (unhide L3)).mono ?_
            rintro e4 w4 ⟨rfl, hb4⟩
            have L4 := (unhide L3).trans (hb4.mono (unhide L3).size)
            go_wp2_with fail
            refine (unhide H42b _ L4).mono ?_
            rintro e5 w5 ⟨rfl, hb5⟩
            have L5 := hide (L4.trans (hb5.mono L4.size))
            have R5 := hide (Row.below (unhide R3) (hb4.trans (hb5.mono hb4.size)))
            clear hb4 hb5 L4 L3 R3 H42a H42b
            go_wp2_with fail
            refine (unhide H29b _ l _ (unhide L5) (row_ints (unhide R5))).mono ?_
            rintro e6 w6 ⟨rfl, hb6⟩
            rw [HRT.out]
            have L6 := hide ((unhide L5).trans (hb6.mono (unhide L5).size))
            clear hb6
            go_wp2_with fail
            refine (unhide HAl _ (unhide L6)).mono ?_
            rintro e7 w7 ⟨rfl, hb6⟩
            go_wp2
            go_ret
            exact ⟨rfl, (unhide L6).trans (hb6.mono (unhide L6).size)⟩
          · have hle' : ¬ (n : Int) < l.length := by have := hle rfl; omega
            clear hle
            go_enter Tryz.func10, Tryz.ntmps10
            go_wp2_with fail
            refine (unhide HL).mono ?_
            rintro e0 w0 ⟨rfl, hb0⟩
            go_wp2_with fail
            refine (unhide H23 _ hb0).mono ?_
            rintro e1 w1 ⟨rfl, hb1⟩
            have L1 := hb0.trans (hb1.mono hb0.size)
            go_wp2_with fail
            refine (unhide H27 _ L1).mono ?_
            rintro e2 w2 ⟨vl, rfl, hr2, hb2⟩
            obtain ⟨o2, c2, rfl⟩ := row_form hr2
            have L2 := L1.trans (hb2.mono L1.size)
            go_wp2_with fail
            refine (unhide H29 _ L2).mono ?_
            rintro e3 w3 ⟨rfl, hb3⟩
            have L3 := hide (L2.trans (hb3.mono L2.size))
            have R3 := hide (Row.below hr2 hb3)
            clear hb0 hb1 hb2 hb3 L1 L2 hr2 HL H23 H27 H29
            go_wp2_with fail
            refine (unhide H42a _ (unhide L3)).mono ?_
            rintro e4 w4 ⟨rfl, hb4⟩
            have L4 := (unhide L3).trans (hb4.mono (unhide L3).size)
            go_wp2_with fail
            refine (unhide H42b _ L4).mono ?_
            rintro e5 w5 ⟨rfl, hb5⟩
            have L5 := hide (L4.trans (hb5.mono L4.size))
            have R5 := hide (Row.below (unhide R3) (hb4.trans (hb5.mono hb4.size)))
            clear hb4 hb5 L4 L3 R3 H42a H42b
            go_wp2_with fail
            refine (unhide H29b _ l _ (unhide L5) (row_ints (unhide R5))).mono ?_
            rintro e6 w6 ⟨rfl, hb6⟩
            rw [HRT.out]
            have L6 := hide ((unhide L5).trans (hb6.mono (unhide L5).size))
            clear hb6
            go_wp2_with fail
            refine (unhide HAl _ (unhide L6)).mono ?_
            rintro e7 w7 ⟨rfl, hb6⟩
            go_wp2
            go_ret
            exact ⟨rfl, (unhide L6).trans (hb6.mono (unhide L6).size)⟩
      · have he : equalL G a b = (false, checkedR G [a, b]) := by unfold equalL; rw [if_pos h0]
        have hk : ckApartL G a b way = (false, checkedR G [a, b]) := by unfold ckApartL; rw [if_pos h0]
        have hap : apartL G a b = ([], false, checkedR G [a, b]) := by unfold apartL; rw [if_pos h0]
        rw [he] at H23
        rw [hk] at H29
        rw [hap] at H27
        clear he hk hap hM hG hP hq hlt hw h60 H29b H42a H42b hz
        generalize checkedR G [a, b] = ck at h0 H23 H27 H29
        generalize way.length = n at h60' H29 ⊢
        have hcc : (ck == ck) = true := by simp
        go_enter Tryz.func10, Tryz.ntmps10
        go_wp2_with fail
        refine (unhide HL).mono ?_
        rintro e0 w0 ⟨rfl, hb0⟩
        go_wp2_with fail
        refine (unhide H23 _ hb0).mono ?_
        rintro e1 w1 ⟨rfl, hb1⟩
        have L1 := hb0.trans (hb1.mono hb0.size)
        go_wp2_with fail
        refine (unhide H27 _ L1).mono ?_
        rintro e2 w2 ⟨vl, rfl, hr2, hb2⟩
        obtain ⟨o2, c2, rfl⟩ := row_form hr2
        have L2 := L1.trans (hb2.mono L1.size)
        go_wp2_with fail
        refine (unhide H29 _ L2).mono ?_
        rintro e3 w3 ⟨rfl, hb3⟩
        have L3 := hide (L2.trans (hb3.mono L2.size))
        have R3 := hide (Row.below hr2 hb3)
        clear hb0 hb1 hb2 hb3 L1 L2 hr2 HL H23 H27 H29
        go_wp2_with fail
        refine (unhide HAl _ (unhide L3)).mono ?_
        rintro e6 w6 ⟨rfl, hb6⟩
        go_wp2
        go_ret
        exact ⟨rfl, (unhide L3).trans (hb6.mono (unhide L3).size)⟩
end Go.Proofs.YteaokkaidcbdlaaGreatDoor

