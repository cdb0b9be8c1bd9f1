/- Part 52 of 53: the texts Zl, Zo, one behind the other. -/
import Derived.Test.YteaokkaidcbdlaaGreatDoorS49
import Derived.Test.YteaokkaidcbdlaaGreatDoorS50
import Derived.Test.YteaokkaidcbdlaaGreatDoorS10
import Derived.Test.YteaokkaidcbdlaaGreatDoorS46
import Derived.Test.YteaokkaidcbdlaaGreatDoorS51
import Derived.Test.YteaokkaidcbdlaaGreatDoorS21
import Derived.Tactics
import Derived.Tactics2
import Derived.WalkKit
import Derived.LoopTactic
import Derived.Outline
import Derived.Lib.Hide
import Derived.Handy
import Derived.KernelRfl
import Derived.Deep.LoopGhost
import Derived.CallsIn
import Derived.Deep.QuietTactic
import Derived.BigQuiet
import Derived.Deep.Draws
import Derived.WalkSpells
import Derived.Lib.Walk
import Derived.Lib.Strings
import Derived.Maps.OwnOps
import Derived.Maps.OwnSet
import Derived.Deep.RegionWith
import Derived.StillTailTactics
import Derived.WalkMore
import Derived.RangeFuncNested
import Derived.RangeFuncBound
import Derived.RangeFuncCalls
import Derived.RangeFuncLeaves
import Derived.RangeFuncBox
import Derived.Shelf.Abstract
import Derived.OwnWalkIn
import Derived.TacticsInMore
import Derived.LoopNIn
import Derived.LoopIn
import Derived.RecoverIn
import Derived.Maps.AppendAt
import Derived.RegionTactic
import Derived.ChangeAlike
import Derived.OwnWalk
import Derived.Deep.AppendLies
import Derived.Deep.DeepCutAuto
import Derived.Deep.RegionLaw
import Derived.Deep.RegionHeld3
import Derived.Laws.EntriesVeiled
import Derived.Test.YteaokkaidcbdlaaGreatDoorS39
import Derived.Handed
import Derived.HandedShaped
import Derived.ProofKit
import Derived.OpenShut
import Derived.LaidMore
import Derived.Lay
import Derived.SevenTiedAt
import Derived.Stop.Joined
import Derived.Lib.LaidU8
import Derived.Lib.LaidTab
import Derived.Carry
/- TypesSame (9): the law -/
namespace Go.Proofs.YteaokkaidcbdlaaGreatDoor
open Go Go.RowKit Go.Shelf
/-! ### TypesSame (9) -/
set_option maxRecDepth 100000 in
set_option maxHeartbeats 16000000 in
theorem same_law (gv vl : Value) (G : List TyD) (a b c : Int) (l : List (Int × Int)) (W : World) (hG : GrAt W gv G) (hq : ∀ t ∈ G, TyZ t ∧ t.kind < 256) (hl : SliceOf 2 (PairAt W) vl l) (hok : ∀ p ∈ l, okI p.1 ∧ okI p.2) (hP : P10 W.heap.size W) :
    Calls Tryz.prog 9 #[gv, .int .i64 a, .int .i64 b, .int .i64 c, vl] W fun e w' => e = .returned (.bool true) ∧ Below W.heap.size W w' := by
  have HL := hide (light_any gv G W hG)
  have HAl := hide (fun w (h : Below W.heap.size W w) => alive_any w (hP.more h))
  obtain ⟨ow, cw, rfl⟩ := hl.form
  cases hlt : lightB G with
  | false =>
    rw [hlt] at HL
    obtain ⟨o, cap, rfl⟩ := hG.form
    clear hG hP hq hl hok
    generalize l.length = n
    go_enter Tryz.func9, Tryz.ntmps9
    go_wp2_with (first | (go_at_call 13; refine (unhide HL).mono ?_; rintro e w1 ⟨rfl, hb1⟩) | (go_at_call 14; refine (unhide HAl _ hb1).mono ?_; rintro e w2 ⟨rfl, hb2⟩))
    go_ret
    exact ⟨rfl, hb1.trans (hb2.mono hb1.size)⟩
  | true =>
    rw [hlt] at HL
    have hz := light_z hq hlt
    by_cases h60 : 60 < l.length
    · have h60' : (60 : Int) < l.length := by omega
      obtain ⟨o, cap, rfl⟩ := hG.form
      clear hG hP hq hl hok h60
      generalize l.length = n at h60' ⊢
      go_enter Tryz.func9, Tryz.ntmps9
      go_wp2_with (first | (go_at_call 13; refine (unhide HL).mono ?_; rintro e w1 ⟨rfl, hb1⟩) | (go_at_call 14; refine (unhide HAl _ hb1).mono ?_; rintro e w2 ⟨rfl, hb2⟩))
      go_ret
      exact ⟨rfl, hb1.trans (hb2.mono hb1.size)⟩
    · have h60' : ¬ (60 : Int) < l.length := by omega
      have H23 := hide (fun (i j : Int) w (h : Below W.heap.size W w) => equal_all gv G i j w (hG.below h) hz)
      have H25 := hide (fun w (h : Below W.heap.size W w) => checkEqual_all gv _ G l w (hG.below h) hz (PairAt.sl hl h) hok)
      have HA9 := hide (@all9 G a b c hz)
      have HP9 := hide (fun (h : (ckEqualL G l).2 = 0) (hc : (checkR G).2 = 0) (ho : (ckEqualL G l).1 = true) (k : Nat) (hk : k < l.length) => pairs9 hc (by rw [← ckEqualL_ok h]; exact ho) k hk)
      have E1 := unhide H23 a b
      have E2 := unhide H23 b c
      have E3 := unhide H23 a c
      have E4 := unhide H23 b a
      have E5 := unhide H23 a a
      obtain ⟨x1, hx1⟩ : ∃ p, equalL G a b = p := ⟨_, rfl⟩
      obtain ⟨x2, hx2⟩ : ∃ p, equalL G b c = p := ⟨_, rfl⟩
      obtain ⟨x3, hx3⟩ : ∃ p, equalL G a c = p := ⟨_, rfl⟩
      obtain ⟨x4, hx4⟩ : ∃ p, equalL G b a = p := ⟨_, rfl⟩
      obtain ⟨x5, hx5⟩ : ∃ p, equalL G a a = p := ⟨_, rfl⟩
      obtain ⟨x6, hx6⟩ : ∃ p, ckEqualL G l = p := ⟨_, rfl⟩
      have HA := unhide HA9
      have HPP := unhide HP9
      rw [hx1, hx2, hx3, hx4, hx5] at HA
      rw [hx6] at HPP H25
      rw [hx1] at E1
      rw [hx2] at E2
      rw [hx3] at E3
      rw [hx4] at E4
      rw [hx5] at E5
      clear hx1 hx2 hx3 hx4 hx5 hx6 HA9 HP9
      obtain ⟨x, e⟩ := x1
      obtain ⟨y, f⟩ := x2
      obtain ⟨z, h⟩ := x3
      obtain ⟨w, i⟩ := x4
      obtain ⟨own, j⟩ := x5
      obtain ⟨ok, k⟩ := x6
      simp only at HA HPP E1 E2 E3 E4 E5 H25
      have HA' := hide HA
      have HPP' := hide HPP
      have F1 := hide E1
      have F2 := hide E2
      have F3 := hide E3
      have F4 := hide E4
      have F5 := hide E5
      have hGG := hide hG
      have hlL := hide hl
      clear HA HPP E1 E2 E3 E4 E5 hG hl hok hP
      obtain ⟨o, cap, rfl⟩ := (unhide hGG).form
      obtain ⟨n, hn⟩ : ∃ n, l.length = n := ⟨_, rfl⟩
      have HN := Lib.hid hn
      rw [hn] at h60' ⊢
      rw [hn] at H25
      clear hn h60
      have F6 := hide H25
      clear H25
      go_enter Tryz.func9, Tryz.ntmps9
      go_wp2_with fail
      refine (unhide HL).mono ?_
      rintro e0 w0 ⟨rfl, hb0⟩
      go_wp2_with fail
      refine (unhide F1 _ hb0).mono ?_
      rintro e1 w1 ⟨rfl, hb1⟩
      have L1 := hb0.trans (hb1.mono hb0.size)
      go_wp2_with fail
      refine (unhide F2 _ L1).mono ?_
      rintro e2 w2 ⟨rfl, hb2⟩
      have L2 := L1.trans (hb2.mono L1.size)
      go_wp2_with fail
      refine (unhide F3 _ L2).mono ?_
      rintro e3 w3 ⟨rfl, hb3⟩
      have L3 := L2.trans (hb3.mono L2.size)
      go_wp2_with fail
      refine (unhide F4 _ L3).mono ?_
      rintro e4 w4 ⟨rfl, hb4⟩
      have L4 := L3.trans (hb4.mono L3.size)
      go_wp2_with fail
      refine (unhide F5 _ L4).mono ?_
      rintro e5 w5 ⟨rfl, hb5⟩
      have L5 := L4.trans (hb5.mono L4.size)
      go_wp2_with fail
      refine (unhide F6 _ L5).mono ?_
      rintro e6 w6 ⟨rfl, hb6⟩
      have L6 := L5.trans (hb6.mono L5.size)
      have L := hide L6
      clear L1 L2 L3 L4 L5 L6 hb0 hb1 hb2 hb3 hb4 hb5 hb6 F1 F2 F3 F4 F5 F6 HL
      rcases (Decidable.em (e = 0)).symm with he0 | rfl
      · clear HA' HPP'
        go_wp2_with fail
        refine (unhide HAl _ (unhide L)).mono ?_
        rintro e8 w8 ⟨rfl, hb8⟩
        go_wp2
        go_ret
        exact ⟨rfl, (unhide L).trans (hb8.mono (unhide L).size)⟩
      rcases (Decidable.em (f = 0)).symm with hf0 | rfl
      · clear HA' HPP'
        go_wp2_with fail
        refine (unhide HAl _ (unhide L)).mono ?_
        rintro e8 w8 ⟨rfl, hb8⟩
        go_wp2
        go_ret
        exact ⟨rfl, (unhide L).trans (hb8.mono (unhide L).size)⟩
      rcases (Decidable.em (h = 0)).symm with hh0 | rfl
      · clear HA' HPP'
        go_wp2_with fail
        refine (unhide HAl _ (unhide L)).mono ?_
        rintro e8 w8 ⟨rfl, hb8⟩
        go_wp2
        go_ret
        exact ⟨rfl, (unhide L).trans (hb8.mono (unhide L).size)⟩
      rcases (Decidable.em (i = 0)).symm with hi0 | rfl
      · clear HA' HPP'
        go_wp2_with fail
        refine (unhide HAl _ (unhide L)).mono ?_
        rintro e8 w8 ⟨rfl, hb8⟩
        go_wp2
        go_ret
        exact ⟨rfl, (unhide L).trans (hb8.mono (unhide L).size)⟩
      rcases (Decidable.em (j = 0)).symm with hj0 | rfl
      · clear HA' HPP'
        go_wp2_with fail
        refine (unhide HAl _ (unhide L)).mono ?_
        rintro e8 w8 ⟨rfl, hb8⟩
        go_wp2
        go_ret
        exact ⟨rfl, (unhide L).trans (hb8.mono (unhide L).size)⟩
      rcases (Decidable.em (k = 0)).symm with hk0 | rfl
      · clear HA' HPP'
        go_wp2_with fail
        refine (unhide HAl _ (unhide L)).mono ?_
        rintro e8 w8 ⟨rfl, hb8⟩
        go_wp2
        go_ret
        exact ⟨rfl, (unhide L).trans (hb8.mono (unhide L).size)⟩
      have HA := unhide HA' rfl rfl rfl rfl rfl
      have HPP := hide (unhide HPP' rfl)
      clear HA' HPP'
      obtain ⟨rfl, rfl, hxyz, i, j, rfl, rfl, hi, hj, hc, hs⟩ := HA
      cases w
      · -- not the same
        have LL := L
        clear hs hxyz
        have L9 := hide (unhide LL)
        go_wp2_with fail
        go_loopw [28] (fun q wr => ∃ k : Nat, k ≤ n ∧ q = .int .i64 k ∧ Below W.heap.size W wr) (fun q _ => n - (intOf q).toNat)
        case atStart => exact ⟨0, Nat.zero_le _, rfl, unhide L9⟩
        case round =>
          obtain ⟨k, hk, rfl, hbw⟩ := hrel
          by_cases hkn : k < n
          · have hkn' : (k : Int) < n := by omega
            cases ok
            · go_wp2_with fail
              refine (unhide HAl _ hbw).mono ?_
              rintro e8 w9 ⟨rfl, hb9⟩
              go_wp2
              go_ret
              exact ⟨rfl, hbw.trans (hb9.mono hbw.size)⟩
            · have hkl : k < l.length := by rw [HN.out]; exact hkn
              obtain ⟨-, -, -, hat⟩ := (unhide hlL).at
              obtain ⟨bl, offl, rfl, e0, e1⟩ := hat k l[k] (List.getElem?_eq_getElem hkl)
              have hEq := unhide HPP hc rfl k hkl
              have H23' := hide (fun w (h : Below wr.heap.size wr w) => unhide H23 l[k].1 l[k].2 w (hbw.trans (h.mono hbw.size)))
              rw [hEq] at H23'
              have P0 : ∀ w, Below wr.heap.size wr w → w.cell? ⟨bl, offl + k * 2, none⟩ = some (.int .i64 l[k].1) := fun w h => Holds.below (hbw.trans (h.mono hbw.size)) _ _ e0
              have P1 : ∀ w, Below wr.heap.size wr w → w.cell? ⟨bl, offl + k * 2 + 1, none⟩ = some (.int .i64 l[k].2) := fun w h => Holds.below (hbw.trans (h.mono hbw.size)) _ _ e1
              clear hEq hat e0 e1
              generalize l[k] = p at H23' P0 P1
              obtain ⟨px, py⟩ := p
              simp only at H23' P0 P1
              go_wp2_with fail
              refine wp_region_quiet (C := fun w' => Below wr.heap.size wr w') (by kernel_rfl) (by kernel_rfl) (below_drewN' (Below.refl _ _) 1) ?_
              simp only []
              repeat (first
                | go_big_quiet_skip
                | (go_big_quiet_want; go_big_quiet_op; first
                  | go_big_quiet_on
                  | (refine ⟨_, fun _ _ => rfl, ?_⟩; go_big_quiet_on)
                  | (refine ⟨.int .i64 px, ?_, ?_⟩
                     · intro w1 hb
                       have e := P0 w1 hb
                       simp [e, go_sem]
                       done
                     go_big_quiet_on)
                  | (refine ⟨.int .i64 py, ?_, ?_⟩
                     · intro w1 hb
                       have e := P1 w1 hb
                       simp [e, go_sem]
                       done
                     go_big_quiet_on)
                  | (apply Exists.intro
                     refine ⟨fun w1 hb => ?_, ?_⟩
                     · with_reducible refine (unhide H23' w1 hb).mono ?_
                       rintro e w2 ⟨rfl, hb2⟩
                       exact ⟨rfl, hb.trans (hb2.mono hb.size)⟩
                     go_big_quiet_on)))
              refine wpQuiet_nil ?_
              rintro w9 hb9
              have hbw9 := hbw.trans (hb9.mono hbw.size)
              clear H23' P0 P1
              go_wp2
              go_roundw
              case rel => exact ⟨k + 1, by omega, by go_num, hbw9⟩
              case measure => simp [intOf]; omega
          · have hkn' : ¬ (k : Int) < n := by omega
            go_wp2_with fail
            refine (unhide HAl _ hbw).mono ?_
            rintro e8 w9 ⟨rfl, hb9⟩
            go_wp2
            go_ret
            exact ⟨rfl, hbw.trans (hb9.mono hbw.size)⟩
      · cases y
        · clear hxyz
          have HS := hs rfl
          obtain ⟨b, off, u1, u2, u3, rfl, gl1, hc1⟩ := (unhide hGG).cells hi
          obtain ⟨b', off', v1, v2, v3, e', gl2, hc2⟩ := (unhide hGG).cells hj
          cases e'
          have hgd1 : G.getD i default = G[i] := by simp [List.getD_eq_getElem?_getD, hi]
          have hgd2 : G.getD j default = G[j] := by simp [List.getD_eq_getElem?_getD, hj]
          have hfit := check_fit hz hc
          have HR1 := hide (fun w (h : Below W.heap.size W w) => refRefs_any G[i] u1 u2 u3 w (gl1.go (.below h)) (hfit.2.1 _ (List.getElem_mem hi)) (by have := refs_results hc hi; rw [hgd1] at this; exact this))
          have HR2 := hide (fun w (h : Below W.heap.size W w) => refRefs_any G[j] v1 v2 v3 w (gl2.go (.below h)) (hfit.2.1 _ (List.getElem_mem hj)) (by have := refs_results hc hj; rw [hgd2] at this; exact this))
          have HAG := hide (fun w (h : Below W.heap.size W w) => refAgree_any G[i] G[j] u1 u2 u3 v1 v2 v3 w (gl1.go (.below h)) (gl2.go (.below h)))
          obtain ⟨hsa, hsl, hsn⟩ := HS
          rw [hgd1, hgd2] at hsa hsl
          rw [hsa] at HAG
          have hsn' : ∀ k (h1 : k < (refsOf G[i]).length) (h2 : k < (refsOf G[j]).length), equalL G ((refsOf G[i])[k]) ((refsOf G[j])[k]) = (true, 0) := fun k h1 h2 => by
            have := hsn k (by rw [hgd1]; exact h1) (by rw [hgd2]; exact h2)
            simp only [hgd1, hgd2] at this
            exact this
          have HSN := hide hsn'
          have HC1 := hide hc1
          have HC2 := hide hc2
          have HLB := Lib.hid (hfit.2.1 _ (List.getElem_mem hi))
          generalize G[i] = ti at HR1 HR2 HAG hsl HSN HC1 HLB
          generalize G[j] = tj at HR2 HAG hsl HSN HC2
          clear hgd1 hgd2 hfit hsa hsn hsn' hc1 hc2 gl1 gl2 hs
          have i1 : (i : Int) < G.length := by omega
          have i2 : (j : Int) < G.length := by omega
          have k1 := unhide HC1 w6 (.below (unhide L))
          have a0 := k1 0 _ rfl
          have a1 := k1 1 _ rfl
          have a2 := k1 2 _ rfl
          have a3 := k1 3 _ rfl
          have a4 := k1 4 _ rfl
          have a5 := k1 5 _ rfl
          have a6 := k1 6 _ rfl
          have a7 := k1 7 _ rfl
          have a8 := k1 8 _ rfl
          have a9 := k1 9 _ rfl
          rw [Nat.add_zero] at a0
          clear k1
          go_wp2_with fail
          refine (unhide HR1 _ (unhide L)).mono ?_
          rintro e7 w7 ⟨v7, rfl, r7, hb7⟩
          unfold ownInts at r7
          obtain ⟨o7, c7, rfl⟩ := row_form r7
          have L7 := (unhide L).trans (hb7.mono (unhide L).size)
          have k2 := unhide HC2 w7 (.below L7)
          clear a0 a1 a2 a3 a4 a5 a6 a7 a8 a9
          have a0 := k2 0 _ rfl
          have a1 := k2 1 _ rfl
          have a2 := k2 2 _ rfl
          have a3 := k2 3 _ rfl
          have a4 := k2 4 _ rfl
          have a5 := k2 5 _ rfl
          have a6 := k2 6 _ rfl
          have a7 := k2 7 _ rfl
          have a8 := k2 8 _ rfl
          have a9 := k2 9 _ rfl
          rw [Nat.add_zero] at a0
          clear k2
          have L7' := hide L7
          have r7' := hide r7
          have hb7' := hide hb7
          clear L7 r7 hb7
          go_wp2_with fail
          refine (unhide HR2 _ (unhide L7')).mono ?_
          rintro e8 w8 ⟨v8, rfl, r8, hb8⟩
          unfold ownInts at r8
          obtain ⟨o8, c8, rfl⟩ := row_form r8
          have L8 := (unhide L7').trans (hb8.mono (unhide L7').size)
          clear a0 a1 a2 a3 a4 a5 a6 a7 a8 a9
          have R7 := hide (Row.below (unhide r7') hb8)
          rw [← hsl] at r8 ⊢
          have R8 := hide r8
          have hK1 : ∀ W', Below w8.heap.size w8 W' → ∀ q u, (tyC ti u1 u2 u3)[q]? = some u → W'.cell? ⟨b, off + i * 10 + q, none⟩ = some u := fun W' hb => unhide HC1 W' (.below (L8.trans (hb.mono L8.size)))
          have hK2 : ∀ W', Below w8.heap.size w8 W' → ∀ q u, (tyC tj v1 v2 v3)[q]? = some u → W'.cell? ⟨b, off + j * 10 + q, none⟩ = some u := fun W' hb => unhide HC2 W' (.below (L8.trans (hb.mono L8.size)))
          have hA := hide (fun w (h : Below w8.heap.size w8 w) => unhide HAG w (L8.trans (h.mono L8.size)))
          obtain ⟨LN, hLN⟩ : ∃ LN, (refsOf ti).length = LN := ⟨_, rfl⟩
          have HLN := Lib.hid hLN
          have hLN63 : LN ≤ 100000 := by rw [← hLN]; exact HLB.out
          have HSL := Lib.hid hsl
          rw [hLN] at ⊢
          clear hLN hsl r8 hb8
          have hneL : ((LN : Int) == LN) = true := by simp
          go_wp2_with fail
          refine wp_region_quiet (C := fun w' => Below w8.heap.size w8 w') (by kernel_rfl) (by kernel_rfl) (below_drewN' (Below.refl _ _) 1) ?_
          simp only []
          repeat (first
            | go_big_quiet_skip
            | (go_big_quiet_want; go_big_quiet_op; first
              | go_big_quiet_on
              | (refine ⟨_, fun _ _ => rfl, ?_⟩; go_big_quiet_on)
              | (refine ⟨tyVal ti u1 u2 u3, ?_, ?_⟩
                 · intro w1 hb
                   have e0 := hK1 w1 hb 0 _ rfl
                   have e1 := hK1 w1 hb 1 _ rfl
                   have e2 := hK1 w1 hb 2 _ rfl
                   have e3 := hK1 w1 hb 3 _ rfl
                   have e4 := hK1 w1 hb 4 _ rfl
                   have e5 := hK1 w1 hb 5 _ rfl
                   have e6 := hK1 w1 hb 6 _ rfl
                   have e7 := hK1 w1 hb 7 _ rfl
                   have e8 := hK1 w1 hb 8 _ rfl
                   have e9 := hK1 w1 hb 9 _ rfl
                   rw [Nat.add_zero] at e0
                   simp [e0, e1, e2, e3, e4, e5, e6, e7, e8, e9, tyVal, go_sem]
                   done
                 go_big_quiet_on)
              | (refine ⟨tyVal tj v1 v2 v3, ?_, ?_⟩
                 · intro w1 hb
                   have e0 := hK2 w1 hb 0 _ rfl
                   have e1 := hK2 w1 hb 1 _ rfl
                   have e2 := hK2 w1 hb 2 _ rfl
                   have e3 := hK2 w1 hb 3 _ rfl
                   have e4 := hK2 w1 hb 4 _ rfl
                   have e5 := hK2 w1 hb 5 _ rfl
                   have e6 := hK2 w1 hb 6 _ rfl
                   have e7 := hK2 w1 hb 7 _ rfl
                   have e8 := hK2 w1 hb 8 _ rfl
                   have e9 := hK2 w1 hb 9 _ rfl
                   rw [Nat.add_zero] at e0
                   simp [e0, e1, e2, e3, e4, e5, e6, e7, e8, e9, tyVal, go_sem]
                   done
                 go_big_quiet_on)
              | (apply Exists.intro
                 refine ⟨fun w1 hb => ?_, ?_⟩
                 · with_reducible refine (unhide hA w1 hb).mono ?_
                   rintro e w2 ⟨rfl, hb2⟩
                   exact ⟨rfl, hb.trans (hb2.mono hb.size)⟩
                 go_big_quiet_on)))
          refine wpQuiet_nil ?_
          rintro wq hbq
          have LQ := hide (L8.trans (hbq.mono L8.size))
          have R7q := hide (Row.below (unhide R7) hbq)
          have R8q := hide (Row.below (unhide R8) hbq)
          clear hK1 hK2 hA hbq L8
          go_wp2_with fail
          go_loopw [25] (fun q wr => ∃ k : Nat, k ≤ LN ∧ q = .int .i64 k ∧ Below wq.heap.size wq wr) (fun q _ => LN - (intOf q).toNat)
          case atStart => exact ⟨0, Nat.zero_le _, rfl, Below.refl _ _⟩
          case round =>
            obtain ⟨k, hk, rfl, hbw⟩ := hrel
            by_cases hkn : k < LN
            · have hkn' : (k : Int) < LN := by omega
              have h1 : k < (refsOf ti).length := by rw [HLN.out]; exact hkn
              have h2 : k < (refsOf tj).length := by rw [← HSL.out]; exact h1
              have rA := Row.below (unhide R7q) hbw
              have rB := Row.below (unhide R8q) hbw
              rw [HSL.out] at rB
              obtain ⟨gA, rfl, -, cA⟩ := row_cell rA k h1
              obtain ⟨gB, rfl, -, cB⟩ := row_cell rB k h2
              have hEq := unhide HSN k h1 h2
              have H23' := hide (fun w (h : Below wr.heap.size wr w) => unhide H23 (refsOf ti)[k] (refsOf tj)[k] w ((unhide LQ).trans ((hbw.trans (h.mono hbw.size)).mono (unhide LQ).size)))
              rw [hEq] at H23'
              have P0 : ∀ w, Below wr.heap.size wr w → w.cell? ⟨gA, k, none⟩ = some (.int .i64 (refsOf ti)[k]) := fun w h => Holds.below h _ _ cA
              have P1 : ∀ w, Below wr.heap.size wr w → w.cell? ⟨gB, k, none⟩ = some (.int .i64 (refsOf tj)[k]) := fun w h => Holds.below h _ _ cB
              clear hEq rA rB cA cB
              generalize (refsOf ti)[k] = px at H23' P0
              generalize (refsOf tj)[k] = py at H23' P1
              go_wp2_with fail
              refine wp_region_quiet (C := fun w' => Below wr.heap.size wr w') (by kernel_rfl) (by kernel_rfl) (below_drewN' (Below.refl _ _) 1) ?_
              simp only []
              repeat (first
                | go_big_quiet_skip
                | (go_big_quiet_want; go_big_quiet_op; first
                  | go_big_quiet_on
                  | (refine ⟨_, fun _ _ => rfl, ?_⟩; go_big_quiet_on)
                  | (refine ⟨.int .i64 px, ?_, ?_⟩
                     · intro w1 hb
                       have e := P0 w1 hb
                       simp [e, go_sem]
                       done
                     go_big_quiet_on)
                  | (refine ⟨.int .i64 py, ?_, ?_⟩
                     · intro w1 hb
                       have e := P1 w1 hb
                       simp [e, go_sem]
                       done
                     go_big_quiet_on)
                  | (apply Exists.intro
                     refine ⟨fun w1 hb => ?_, ?_⟩
                     · with_reducible refine (unhide H23' w1 hb).mono ?_
                       rintro e w2 ⟨rfl, hb2⟩
                       exact ⟨rfl, hb.trans (hb2.mono hb.size)⟩
                     go_big_quiet_on)))
              refine wpQuiet_nil ?_
              rintro w9 hb9
              have hbw9 := hbw.trans (hb9.mono hbw.size)
              clear H23' P0 P1
              go_wp2
              go_roundw
              case rel => exact ⟨k + 1, by omega, by go_num, hbw9⟩
              case measure => simp [intOf]; omega
            · have hkn' : ¬ (k : Int) < LN := by omega
              have LL := hide ((unhide LQ).trans (hbw.mono (unhide LQ).size))
              clear hbw
              have L9 := hide (unhide LL)
              go_wp2_with fail
              go_loopw [28] (fun q wr => ∃ k : Nat, k ≤ n ∧ q = .int .i64 k ∧ Below W.heap.size W wr) (fun q _ => n - (intOf q).toNat)
              case atStart => exact ⟨0, Nat.zero_le _, rfl, unhide L9⟩
              case round =>
                obtain ⟨k, hk, rfl, hbw⟩ := hrel
                by_cases hkn : k < n
                · have hkn' : (k : Int) < n := by omega
                  cases ok
                  · go_wp2_with fail
                    refine (unhide HAl _ hbw).mono ?_
                    rintro e8 w9 ⟨rfl, hb9⟩
                    go_wp2
                    go_ret
                    exact ⟨rfl, hbw.trans (hb9.mono hbw.size)⟩
                  · have hkl : k < l.length := by rw [HN.out]; exact hkn
                    obtain ⟨-, -, -, hat⟩ := (unhide hlL).at
                    obtain ⟨bl, offl, rfl, e0, e1⟩ := hat k l[k] (List.getElem?_eq_getElem hkl)
                    have hEq := unhide HPP hc rfl k hkl
                    have H23' := hide (fun w (h : Below wr.heap.size wr w) => unhide H23 l[k].1 l[k].2 w (hbw.trans (h.mono hbw.size)))
                    rw [hEq] at H23'
                    have P0 : ∀ w, Below wr.heap.size wr w → w.cell? ⟨bl, offl + k * 2, none⟩ = some (.int .i64 l[k].1) := fun w h => Holds.below (hbw.trans (h.mono hbw.size)) _ _ e0
                    have P1 : ∀ w, Below wr.heap.size wr w → w.cell? ⟨bl, offl + k * 2 + 1, none⟩ = some (.int .i64 l[k].2) := fun w h => Holds.below (hbw.trans (h.mono hbw.size)) _ _ e1
                    clear hEq hat e0 e1
                    generalize l[k] = p at H23' P0 P1
                    obtain ⟨px, py⟩ := p
                    simp only at H23' P0 P1
                    go_wp2_with fail
                    refine wp_region_quiet (C := fun w' => Below wr.heap.size wr w') (by kernel_rfl) (by kernel_rfl) (below_drewN' (Below.refl _ _) 1) ?_
                    simp only []
                    repeat (first
                      | go_big_quiet_skip
                      | (go_big_quiet_want; go_big_quiet_op; first
                        | go_big_quiet_on
                        | (refine ⟨_, fun _ _ => rfl, ?_⟩; go_big_quiet_on)
                        | (refine ⟨.int .i64 px, ?_, ?_⟩
                           · intro w1 hb
                             have e := P0 w1 hb
                             simp [e, go_sem]
                             done
                           go_big_quiet_on)
                        | (refine ⟨.int .i64 py, ?_, ?_⟩
                           · intro w1 hb
                             have e := P1 w1 hb
                             simp [e, go_sem]
                             done
                           go_big_quiet_on)
                        | (apply Exists.intro
                           refine ⟨fun w1 hb => ?_, ?_⟩
                           · with_reducible refine (unhide H23' w1 hb).mono ?_
                             rintro e w2 ⟨rfl, hb2⟩
                             exact ⟨rfl, hb.trans (hb2.mono hb.size)⟩
                           go_big_quiet_on)))
                    refine wpQuiet_nil ?_
                    rintro w9 hb9
                    have hbw9 := hbw.trans (hb9.mono hbw.size)
                    clear H23' P0 P1
                    go_wp2
                    go_roundw
                    case rel => exact ⟨k + 1, by omega, by go_num, hbw9⟩
                    case measure => simp [intOf]; omega
                · have hkn' : ¬ (k : Int) < n := by omega
                  go_wp2_with fail
                  refine (unhide HAl _ hbw).mono ?_
                  rintro e8 w9 ⟨rfl, hb9⟩
                  go_wp2
                  go_ret
                  exact ⟨rfl, hbw.trans (hb9.mono hbw.size)⟩
        · obtain rfl := hxyz rfl rfl
          have HS := hs rfl
          obtain ⟨b, off, u1, u2, u3, rfl, gl1, hc1⟩ := (unhide hGG).cells hi
          obtain ⟨b', off', v1, v2, v3, e', gl2, hc2⟩ := (unhide hGG).cells hj
          cases e'
          have hgd1 : G.getD i default = G[i] := by simp [List.getD_eq_getElem?_getD, hi]
          have hgd2 : G.getD j default = G[j] := by simp [List.getD_eq_getElem?_getD, hj]
          have hfit := check_fit hz hc
          have HR1 := hide (fun w (h : Below W.heap.size W w) => refRefs_any G[i] u1 u2 u3 w (gl1.go (.below h)) (hfit.2.1 _ (List.getElem_mem hi)) (by have := refs_results hc hi; rw [hgd1] at this; exact this))
          have HR2 := hide (fun w (h : Below W.heap.size W w) => refRefs_any G[j] v1 v2 v3 w (gl2.go (.below h)) (hfit.2.1 _ (List.getElem_mem hj)) (by have := refs_results hc hj; rw [hgd2] at this; exact this))
          have HAG := hide (fun w (h : Below W.heap.size W w) => refAgree_any G[i] G[j] u1 u2 u3 v1 v2 v3 w (gl1.go (.below h)) (gl2.go (.below h)))
          obtain ⟨hsa, hsl, hsn⟩ := HS
          rw [hgd1, hgd2] at hsa hsl
          rw [hsa] at HAG
          have hsn' : ∀ k (h1 : k < (refsOf G[i]).length) (h2 : k < (refsOf G[j]).length), equalL G ((refsOf G[i])[k]) ((refsOf G[j])[k]) = (true, 0) := fun k h1 h2 => by
            have := hsn k (by rw [hgd1]; exact h1) (by rw [hgd2]; exact h2)
            simp only [hgd1, hgd2] at this
            exact this
          have HSN := hide hsn'
          have HC1 := hide hc1
          have HC2 := hide hc2
          have HLB := Lib.hid (hfit.2.1 _ (List.getElem_mem hi))
          generalize G[i] = ti at HR1 HR2 HAG hsl HSN HC1 HLB
          generalize G[j] = tj at HR2 HAG hsl HSN HC2
          clear hgd1 hgd2 hfit hsa hsn hsn' hc1 hc2 gl1 gl2 hs
          have i1 : (i : Int) < G.length := by omega
          have i2 : (j : Int) < G.length := by omega
          have k1 := unhide HC1 w6 (.below (unhide L))
          have a0 := k1 0 _ rfl
          have a1 := k1 1 _ rfl
          have a2 := k1 2 _ rfl
          have a3 := k1 3 _ rfl
          have a4 := k1 4 _ rfl
          have a5 := k1 5 _ rfl
          have a6 := k1 6 _ rfl
          have a7 := k1 7 _ rfl
          have a8 := k1 8 _ rfl
          have a9 := k1 9 _ rfl
          rw [Nat.add_zero] at a0
          clear k1
          go_wp2_with fail
          refine (unhide HR1 _ (unhide L)).mono ?_
          rintro e7 w7 ⟨v7, rfl, r7, hb7⟩
          unfold ownInts at r7
          obtain ⟨o7, c7, rfl⟩ := row_form r7
          have L7 := (unhide L).trans (hb7.mono (unhide L).size)
          have k2 := unhide HC2 w7 (.below L7)
          clear a0 a1 a2 a3 a4 a5 a6 a7 a8 a9
          have a0 := k2 0 _ rfl
          have a1 := k2 1 _ rfl
          have a2 := k2 2 _ rfl
          have a3 := k2 3 _ rfl
          have a4 := k2 4 _ rfl
          have a5 := k2 5 _ rfl
          have a6 := k2 6 _ rfl
          have a7 := k2 7 _ rfl
          have a8 := k2 8 _ rfl
          have a9 := k2 9 _ rfl
          rw [Nat.add_zero] at a0
          clear k2
          have L7' := hide L7
          have r7' := hide r7
          have hb7' := hide hb7
          clear L7 r7 hb7
          go_wp2_with fail
          refine (unhide HR2 _ (unhide L7')).mono ?_
          rintro e8 w8 ⟨v8, rfl, r8, hb8⟩
          unfold ownInts at r8
          obtain ⟨o8, c8, rfl⟩ := row_form r8
          have L8 := (unhide L7').trans (hb8.mono (unhide L7').size)
          clear a0 a1 a2 a3 a4 a5 a6 a7 a8 a9
          have R7 := hide (Row.below (unhide r7') hb8)
          rw [← hsl] at r8 ⊢
          have R8 := hide r8
          have hK1 : ∀ W', Below w8.heap.size w8 W' → ∀ q u, (tyC ti u1 u2 u3)[q]? = some u → W'.cell? ⟨b, off + i * 10 + q, none⟩ = some u := fun W' hb => unhide HC1 W' (.below (L8.trans (hb.mono L8.size)))
          have hK2 : ∀ W', Below w8.heap.size w8 W' → ∀ q u, (tyC tj v1 v2 v3)[q]? = some u → W'.cell? ⟨b, off + j * 10 + q, none⟩ = some u := fun W' hb => unhide HC2 W' (.below (L8.trans (hb.mono L8.size)))
          have hA := hide (fun w (h : Below w8.heap.size w8 w) => unhide HAG w (L8.trans (h.mono L8.size)))
          obtain ⟨LN, hLN⟩ : ∃ LN, (refsOf ti).length = LN := ⟨_, rfl⟩
          have HLN := Lib.hid hLN
          have hLN63 : LN ≤ 100000 := by rw [← hLN]; exact HLB.out
          have HSL := Lib.hid hsl
          rw [hLN] at ⊢
          clear hLN hsl r8 hb8
          have hneL : ((LN : Int) == LN) = true := by simp
          go_wp2_with fail
          refine wp_region_quiet (C := fun w' => Below w8.heap.size w8 w') (by kernel_rfl) (by kernel_rfl) (below_drewN' (Below.refl _ _) 1) ?_
          simp only []
          repeat (first
            | go_big_quiet_skip
            | (go_big_quiet_want; go_big_quiet_op; first
              | go_big_quiet_on
              | (refine ⟨_, fun _ _ => rfl, ?_⟩; go_big_quiet_on)
              | (refine ⟨tyVal ti u1 u2 u3, ?_, ?_⟩
                 · intro w1 hb
                   have e0 := hK1 w1 hb 0 _ rfl
                   have e1 := hK1 w1 hb 1 _ rfl
                   have e2 := hK1 w1 hb 2 _ rfl
                   have e3 := hK1 w1 hb 3 _ rfl
                   have e4 := hK1 w1 hb 4 _ rfl
                   have e5 := hK1 w1 hb 5 _ rfl
                   have e6 := hK1 w1 hb 6 _ rfl
                   have e7 := hK1 w1 hb 7 _ rfl
                   have e8 := hK1 w1 hb 8 _ rfl
                   have e9 := hK1 w1 hb 9 _ rfl
                   rw [Nat.add_zero] at e0
                   simp [e0, e1, e2, e3, e4, e5, e6, e7, e8, e9, tyVal, go_sem]
                   done
                 go_big_quiet_on)
              | (refine ⟨tyVal tj v1 v2 v3, ?_, ?_⟩
                 · intro w1 hb
                   have e0 := hK2 w1 hb 0 _ rfl
                   have e1 := hK2 w1 hb 1 _ rfl
                   have e2 := hK2 w1 hb 2 _ rfl
                   have e3 := hK2 w1 hb 3 _ rfl
                   have e4 := hK2 w1 hb 4 _ rfl
                   have e5 := hK2 w1 hb 5 _ rfl
                   have e6 := hK2 w1 hb 6 _ rfl
                   have e7 := hK2 w1 hb 7 _ rfl
                   have e8 := hK2 w1 hb 8 _ rfl
                   have e9 := hK2 w1 hb 9 _ rfl
                   rw [Nat.add_zero] at e0
                   simp [e0, e1, e2, e3, e4, e5, e6, e7, e8, e9, tyVal, go_sem]
                   done
                 go_big_quiet_on)
              | (apply Exists.intro
                 refine ⟨fun w1 hb => ?_, ?_⟩
                 · with_reducible refine (unhide hA w1 hb).mono ?_
                   rintro e w2 ⟨rfl, hb2⟩
                   exact ⟨rfl, hb.trans (hb2.mono hb.size)⟩
                 go_big_quiet_on)))
          refine wpQuiet_nil ?_
          rintro wq hbq
          have LQ := hide (L8.trans (hbq.mono L8.size))
          have R7q := hide (Row.below (unhide R7) hbq)
          have R8q := hide (Row.below (unhide R8) hbq)
          clear hK1 hK2 hA hbq L8
          go_wp2_with fail
          go_loopw [25] (fun q wr => ∃ k : Nat, k ≤ LN ∧ q = .int .i64 k ∧ Below wq.heap.size wq wr) (fun q _ => LN - (intOf q).toNat)
          case atStart => exact ⟨0, Nat.zero_le _, rfl, Below.refl _ _⟩
          case round =>
            obtain ⟨k, hk, rfl, hbw⟩ := hrel
            by_cases hkn : k < LN
            · have hkn' : (k : Int) < LN := by omega
              have h1 : k < (refsOf ti).length := by rw [HLN.out]; exact hkn
              have h2 : k < (refsOf tj).length := by rw [← HSL.out]; exact h1
              have rA := Row.below (unhide R7q) hbw
              have rB := Row.below (unhide R8q) hbw
              rw [HSL.out] at rB
              obtain ⟨gA, rfl, -, cA⟩ := row_cell rA k h1
              obtain ⟨gB, rfl, -, cB⟩ := row_cell rB k h2
              have hEq := unhide HSN k h1 h2
              have H23' := hide (fun w (h : Below wr.heap.size wr w) => unhide H23 (refsOf ti)[k] (refsOf tj)[k] w ((unhide LQ).trans ((hbw.trans (h.mono hbw.size)).mono (unhide LQ).size)))
              rw [hEq] at H23'
              have P0 : ∀ w, Below wr.heap.size wr w → w.cell? ⟨gA, k, none⟩ = some (.int .i64 (refsOf ti)[k]) := fun w h => Holds.below h _ _ cA
              have P1 : ∀ w, Below wr.heap.size wr w → w.cell? ⟨gB, k, none⟩ = some (.int .i64 (refsOf tj)[k]) := fun w h => Holds.below h _ _ cB
              clear hEq rA rB cA cB
              generalize (refsOf ti)[k] = px at H23' P0
              generalize (refsOf tj)[k] = py at H23' P1
              go_wp2_with fail
              refine wp_region_quiet (C := fun w' => Below wr.heap.size wr w') (by kernel_rfl) (by kernel_rfl) (below_drewN' (Below.refl _ _) 1) ?_
              simp only []
              repeat (first
                | go_big_quiet_skip
                | (go_big_quiet_want; go_big_quiet_op; first
                  | go_big_quiet_on
                  | (refine ⟨_, fun _ _ => rfl, ?_⟩; go_big_quiet_on)
                  | (refine ⟨.int .i64 px, ?_, ?_⟩
                     · intro w1 hb
                       have e := P0 w1 hb
                       simp [e, go_sem]
                       done
                     go_big_quiet_on)
                  | (refine ⟨.int .i64 py, ?_, ?_⟩
                     · intro w1 hb
                       have e := P1 w1 hb
                       simp [e, go_sem]
                       done
                     go_big_quiet_on)
                  | (apply Exists.intro
                     refine ⟨fun w1 hb => ?_, ?_⟩
                     · with_reducible refine (unhide H23' w1 hb).mono ?_
                       rintro e w2 ⟨rfl, hb2⟩
                       exact ⟨rfl, hb.trans (hb2.mono hb.size)⟩
                     go_big_quiet_on)))
              refine wpQuiet_nil ?_
              rintro w9 hb9
              have hbw9 := hbw.trans (hb9.mono hbw.size)
              clear H23' P0 P1
              go_wp2
              go_roundw
              case rel => exact ⟨k + 1, by omega, by go_num, hbw9⟩
              case measure => simp [intOf]; omega
            · have hkn' : ¬ (k : Int) < LN := by omega
              have LL := hide ((unhide LQ).trans (hbw.mono (unhide LQ).size))
              clear hbw
              have L9 := hide (unhide LL)
              go_wp2_with fail
              go_loopw [28] (fun q wr => ∃ k : Nat, k ≤ n ∧ q = .int .i64 k ∧ Below W.heap.size W wr) (fun q _ => n - (intOf q).toNat)
              case atStart => exact ⟨0, Nat.zero_le _, rfl, unhide L9⟩
              case round =>
                obtain ⟨k, hk, rfl, hbw⟩ := hrel
                by_cases hkn : k < n
                · have hkn' : (k : Int) < n := by omega
                  cases ok
                  · go_wp2_with fail
                    refine (unhide HAl _ hbw).mono ?_
                    rintro e8 w9 ⟨rfl, hb9⟩
                    go_wp2
                    go_ret
                    exact ⟨rfl, hbw.trans (hb9.mono hbw.size)⟩
                  · have hkl : k < l.length := by rw [HN.out]; exact hkn
                    obtain ⟨-, -, -, hat⟩ := (unhide hlL).at
                    obtain ⟨bl, offl, rfl, e0, e1⟩ := hat k l[k] (List.getElem?_eq_getElem hkl)
                    have hEq := unhide HPP hc rfl k hkl
                    have H23' := hide (fun w (h : Below wr.heap.size wr w) => unhide H23 l[k].1 l[k].2 w (hbw.trans (h.mono hbw.size)))
                    rw [hEq] at H23'
                    have P0 : ∀ w, Below wr.heap.size wr w → w.cell? ⟨bl, offl + k * 2, none⟩ = some (.int .i64 l[k].1) := fun w h => Holds.below (hbw.trans (h.mono hbw.size)) _ _ e0
                    have P1 : ∀ w, Below wr.heap.size wr w → w.cell? ⟨bl, offl + k * 2 + 1, none⟩ = some (.int .i64 l[k].2) := fun w h => Holds.below (hbw.trans (h.mono hbw.size)) _ _ e1
                    clear hEq hat e0 e1
                    generalize l[k] = p at H23' P0 P1
                    obtain ⟨px, py⟩ := p
                    simp only at H23' P0 P1
                    go_wp2_with fail
                    refine wp_region_quiet (C := fun w' => Below wr.heap.size wr w') (by kernel_rfl) (by kernel_rfl) (below_drewN' (Below.refl _ _) 1) ?_
                    simp only []
                    repeat (first
                      | go_big_quiet_skip
                      | (go_big_quiet_want; go_big_quiet_op; first
                        | go_big_quiet_on
                        | (refine ⟨_, fun _ _ => rfl, ?_⟩; go_big_quiet_on)
                        | (refine ⟨.int .i64 px, ?_, ?_⟩
                           · intro w1 hb
                             have e := P0 w1 hb
                             simp [e, go_sem]
                             done
                           go_big_quiet_on)
                        | (refine ⟨.int .i64 py, ?_, ?_⟩
                           · intro w1 hb
                             have e := P1 w1 hb
                             simp [e, go_sem]
                             done
                           go_big_quiet_on)
                        | (apply Exists.intro
                           refine ⟨fun w1 hb => ?_, ?_⟩
                           · with_reducible refine (unhide H23' w1 hb).mono ?_
                             rintro e w2 ⟨rfl, hb2⟩
                             exact ⟨rfl, hb.trans (hb2.mono hb.size)⟩
                           go_big_quiet_on)))
                    refine wpQuiet_nil ?_
                    rintro w9 hb9
                    have hbw9 := hbw.trans (hb9.mono hbw.size)
                    clear H23' P0 P1
                    go_wp2
                    go_roundw
                    case rel => exact ⟨k + 1, by omega, by go_num, hbw9⟩
                    case measure => simp [intOf]; omega
                · have hkn' : ¬ (k : Int) < n := by omega
                  go_wp2_with fail
                  refine (unhide HAl _ hbw).mono ?_
                  rintro e8 w9 ⟨rfl, hb9⟩
                  go_wp2
                  go_ret
                  exact ⟨rfl, hbw.trans (hb9.mono hbw.size)⟩
end Go.Proofs.YteaokkaidcbdlaaGreatDoor
/- TypesSame: the row's wrap. -/
namespace Go.Proofs.YteaokkaidcbdlaaGreatDoor
open Go Go.RowKit Go.Shelf
open Go.ChangeShapes Go.WideShapes Go.ChangeAt
open Go.ChangeMaps (open_string shut_string)
set_option maxRecDepth 100000
section
variable {H : Type} {enc : TypeId × Value → H} {P : Program} {w : World} {base : Nat} {spare : Nat → Bool} {held : Bool}
theorem trodAll_five {t0 t1 t2 t3 t4 : TypeId} {args : Array Value} {ds : List (DataW H)} {ps : List MemPlace} (h : DataW.TrodAll enc P w base spare held [t0, t1, t2, t3, t4] args.toList ds ps) :
    ∃ v0 v1 v2 v3 v4 d0 d1 d2 d3 d4 p0 p1 p2 p3 p4, args = #[v0, v1, v2, v3, v4] ∧ ds = [d0, d1, d2, d3, d4] ∧ ps = p0 ++ p1 ++ p2 ++ p3 ++ p4 ∧ DataW.Trod enc P w base spare held t0 v0 d0 p0 ∧ DataW.Trod enc P w base spare held t1 v1 d1 p1 ∧ DataW.Trod enc P w base spare held t2 v2 d2 p2 ∧ DataW.Trod enc P w base spare held t3 v3 d3 p3 ∧ DataW.Trod enc P w base spare held t4 v4 d4 p4 := by
  obtain ⟨v0, vs0, d0, ds0, p0, q0, hargs, rfl, rfl, hd0, h0⟩ := trodAll_cons h
  obtain ⟨v1, vs1, d1, ds1, p1, q1, rfl, rfl, rfl, hd1, h1⟩ := trodAll_cons h0
  obtain ⟨v2, vs2, d2, ds2, p2, q2, rfl, rfl, rfl, hd2, h2⟩ := trodAll_cons h1
  obtain ⟨v3, vs3, d3, ds3, p3, q3, rfl, rfl, rfl, hd3, h3⟩ := trodAll_cons h2
  obtain ⟨v4, vs4, d4, ds4, p4, q4, rfl, rfl, rfl, hd4, h4⟩ := trodAll_cons h3
  obtain ⟨rfl, rfl, rfl⟩ := trodAll_nil h4
  exact ⟨v0, v1, v2, v3, v4, d0, d1, d2, d3, d4, p0, p1, p2, p3, p4, by cases args; simp_all, rfl, by simp, hd0, hd1, hd2, hd3, hd4⟩
theorem trodAll_mk5 {t0 t1 t2 t3 t4 : TypeId} {v0 v1 v2 v3 v4 : Value} {d0 d1 d2 d3 d4 : DataW H} {p0 p1 p2 p3 p4 : List MemPlace} (h0 : DataW.Trod enc P w base spare held t0 v0 d0 p0) (h1 : DataW.Trod enc P w base spare held t1 v1 d1 p1)
    (h2 : DataW.Trod enc P w base spare held t2 v2 d2 p2) (h3 : DataW.Trod enc P w base spare held t3 v3 d3 p3) (h4 : DataW.Trod enc P w base spare held t4 v4 d4 p4) :
    DataW.TrodAll enc P w base spare held [t0, t1, t2, t3, t4] [v0, v1, v2, v3, v4] [d0, d1, d2, d3, d4] (p0 ++ (p1 ++ (p2 ++ (p3 ++ p4)))) := ⟨p0, p1 ++ (p2 ++ (p3 ++ p4)), h0, trodAll_mk4 h1 h2 h3 h4, rfl⟩
end
theorem pairs_arg {H : Type} {enc : TypeId × Value → H} {W : World} {a : Option Addr} {len cap : Nat} {d : DataW H} {p : List MemPlace} (h : DataW.Trod enc Tryz.prog W 0 (fun _ => true) true 33 (.slice a len cap) d p) :
    ∃ l : List (Int × Int), SliceOf 2 (PairAt W) (.slice a len cap) l ∧ ∀ p ∈ l, okI p.1 ∧ okI p.2 := by
  obtain ⟨fuel, hf⟩ := h
  exact pairs_read' (by simpa [Value.cells] using hf)
theorem pairs_again {H : Type} {enc : TypeId × Value → H} {W W' : World} {v : Value} {d : DataW H} {p : List MemPlace} (h : DataW.Trod enc Tryz.prog W 0 (fun _ => true) true 33 v d p) (hb : Below W.heap.size W W') (hlt : ∀ x ∈ p, x.block < W.heap.size) :
    DataW.Trod enc Tryz.prog W' 0 (fun b => decide (b < W.heap.size)) true 33 v d p :=
  Below.trod laid_out (by kernel_rfl) (of_decide_eq_true (by kernel_rfl)) h hb hlt
theorem typesSame_lifted (os : Os) (started : os.Started) (H : Type) (enc : TypeId × Value → H) :
    ReturnsInHanded {} Tryz.checked os 9 .any (fun w args => (Rows.typesSameSpec.pre enc Tryz.prog Tryz.f9 Rows.typesSameRow.domain false w args ∧ laidMetH Tryz.prog Rows.typesSameRow.laid w) ∧ sizedMet enc Tryz.prog Tryz.f9 (OpenSpec.ofChange Rows.typesSameSpec) false w args)
      (Rows.typesSameSpec.post enc Tryz.prog Tryz.f9 false true false false) := by
  refine handed_both (C := Tryz.checked) (X := fun w _ => laidMetH Tryz.prog Rows.typesSameRow.laid w) (fun _ _ _ hh h => h.of_heap hh) own started (by kernel_rfl) Tryz.func9
    (ChangeSpec.witness_shaped (enc := enc) (C := Tryz.checked) (os := os) (X := fun w _ => laidMetH Tryz.prog Rows.typesSameRow.laid w) false (World.laidAll Tryz.prog os Rows.typesSameRow.laid) #[.slice none 0 0, .int .i64 0, .int .i64 0, .int .i64 0, .slice none 0 0] 8 (World.laidAll_os _ _ _)
      (World.shaped_of_ZipB (by kernel_rfl) (by kernel_rfl)) (by kernel_rfl) (by kernel_rfl) (by kernel_rfl)
      (by rw [MakeChecks.laidMetH_plain _ _ _ (by kernel_rfl)]; exact laidMet_laidAll _ (by kernel_rfl) (by kernel_rfl))) ?_
  intro W base args ds gs before hval0 hW hL hsh
  have hval : ∀ (j : Nat) t v, Tryz.f9.params[j]? = some t → args[j]? = some v → Value.okWide Tryz.prog W .any base t v := hval0
  have hW' := hW
  obtain ⟨p, q, hA0, hV, rfl, _, _⟩ := hW
  have hA : DataW.TrodAll enc Tryz.prog W 0 (fun _ => true) true Tryz.f9.params.toList args.toList ds p := hA0
  rw [Tryz.params9] at hA hval
  obtain ⟨v0, v1, v2, v3, v4, d0, d1, d2, d3, d4, p0, p1, p2, p3, p4, rfl, rfl, rfl, h0, h1, h2, h3, h4⟩ := trodAll_five hA
  obtain ⟨rfl, rfl⟩ := trodVars_none hV
  obtain ⟨a0, l0, k0, rfl⟩ := okWide_slice Tryz.underlying23 (hval 0 23 v0 rfl rfl)
  obtain ⟨x1, rfl, rfl, rfl, w1⟩ := open_int Tryz.underlying3 (hval 1 3 v1 rfl rfl) h1
  obtain ⟨x2, rfl, rfl, rfl, w2⟩ := open_int Tryz.underlying3 (hval 2 3 v2 rfl rfl) h2
  obtain ⟨x3, rfl, rfl, rfl, w3⟩ := open_int Tryz.underlying3 (hval 3 3 v3 rfl rfl) h3
  obtain ⟨a4, l4, k4, rfl⟩ := okWide_slice Tryz.underlying33 (hval 4 33 v4 rfl rfl)
  simp only [List.append_nil] at hW'
  have hlt0 : ∀ x ∈ p0, x.block < W.heap.size := fun x hx => hW'.lt x (by simp [hx])
  have hlt4 : ∀ x ∈ p4, x.block < W.heap.size := fun x hx => hW'.lt x (by simp [hx])
  rw [MakeChecks.laidMetH_plain _ _ _ (by kernel_rfl)] at hL
  have hP := p10_of hL (by simp [Rows.typesSameRow])
  obtain ⟨G, hG, hq⟩ := graph_arg h0
  obtain ⟨l, hl, hok⟩ := pairs_arg h4
  refine (same_law _ _ G x1 x2 x3 l W hG hq hl hok hP).mono fun e W' ⟨he, hb⟩ => ?_
  subst he
  exact ⟨_, rfl, _, _, _, [], p0 ++ p4, [], hW', trodAll_mk1 (shut_bool Tryz.underlying4 _), by
    have := trodAll_mk5 (graph_again h0 hb hlt0) (shut_int Tryz.underlying3 w1) (shut_int Tryz.underlying3 w2) (shut_int Tryz.underlying3 w3) (pairs_again h4 hb hlt4)
    simp only [List.nil_append] at this
    exact this, rfl, hb.frame _, fun h => by cases h⟩
end Go.Proofs.YteaokkaidcbdlaaGreatDoor
