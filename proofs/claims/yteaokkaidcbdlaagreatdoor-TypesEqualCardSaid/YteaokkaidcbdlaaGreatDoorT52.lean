/- Part 52 of 53: the texts Ze, Zf, Zg, Zi, one behind the other. -/
import Derived.Test.YteaokkaidcbdlaaGreatDoorT46
import Derived.Test.YteaokkaidcbdlaaGreatDoorT50
import Derived.Test.YteaokkaidcbdlaaGreatDoorT28
import Derived.Tactics
import Derived.Tactics2
import Derived.WalkKit
import Derived.LoopTactic
import Derived.Outline
import Derived.Lib.Hide
import Derived.Handy
import Derived.KernelRfl
import Derived.Deep.LoopGhost
import Derived.CallsIn
import Derived.Deep.QuietTactic
import Derived.BigQuiet
import Derived.Deep.Draws
import Derived.WalkSpells
import Derived.Lib.Walk
import Derived.Lib.Strings
import Derived.Maps.OwnOps
import Derived.Maps.OwnSet
import Derived.Deep.RegionWith
import Derived.StillTailTactics
import Derived.WalkMore
import Derived.RangeFuncNested
import Derived.RangeFuncBound
import Derived.RangeFuncCalls
import Derived.RangeFuncLeaves
import Derived.RangeFuncBox
import Derived.Shelf.Abstract
import Derived.OwnWalkIn
import Derived.TacticsInMore
import Derived.LoopNIn
import Derived.LoopIn
import Derived.RecoverIn
import Derived.Maps.AppendAt
import Derived.RegionTactic
import Derived.ChangeAlike
import Derived.OwnWalk
import Derived.Deep.AppendLies
import Derived.Deep.DeepCutAuto
import Derived.Deep.RegionLaw
import Derived.Deep.RegionHeld3
import Derived.Laws.EntriesVeiled
import Derived.Test.YteaokkaidcbdlaaGreatDoorT18
import Derived.Test.YteaokkaidcbdlaaGreatDoorT51
import Derived.Test.YteaokkaidcbdlaaGreatDoorT8
import Derived.Test.YteaokkaidcbdlaaGreatDoorT40
import Derived.Test.YteaokkaidcbdlaaGreatDoorT34
import Derived.Handed
import Derived.HandedShaped
import Derived.ProofKit
import Derived.OpenShut
import Derived.LaidMore
import Derived.Lay
import Derived.SevenTiedAt
import Derived.Stop.Joined
import Derived.Lib.LaidU8
import Derived.Lib.LaidTab
import Derived.Carry
namespace Go.Proofs.YteaokkaidcbdlaaGreatDoor
open Go Go.RowKit Go.Shelf
theorem refChecked_two (gv : Value) (G : List TyD) (i j : Int) (W : World) (hG0 : GrAt W gv G) (hz : GrZ G) :
    Calls Tryz.prog 58 #[gv, .slice (some ⟨W.heap.size, 0, none⟩) 2 2] (W.alloc (.cells #[.int .i64 i, .int .i64 j] 3)) fun e w' => e = .returned (.int .i64 (checkedR G [i, j])) ∧ Below (W.alloc (.cells #[.int .i64 i, .int .i64 j] 3)).heap.size (W.alloc (.cells #[.int .i64 i, .int .i64 j] 3)) w' := by
  have bA := Blk.new W [.int .i64 i, .int .i64 j] 3
  have hbA := (Below.refl W.heap.size W).alloc (Nat.le_refl _) (.cells #[.int .i64 i, .int .i64 j] 3)
  change Blk (W.alloc (.cells #[.int .i64 i, .int .i64 j] 3)) _ _ _ at bA
  have hL : SliceOf 1 (IntAt (W.alloc (.cells #[.int .i64 i, .int .i64 j] 3))) (.slice (some ⟨W.heap.size, 0, none⟩) 2 2) [i, j] := by
    refine ⟨some ⟨W.heap.size, 0, none⟩, 2, rfl, Nat.le_refl _, by decide, fun q x hx => ⟨_, 0, rfl, ?_⟩⟩
    unfold IntAt
    match q with
    | 0 => simp at hx; subst hx; exact bA.cell 0
    | 1 => simp at hx; subst hx; exact bA.cell 1
    | q + 2 => simp at hx
  exact refChecked_any _ G _ (hG0.below hbA) hz _ [i, j] hL
theorem refChecked_none (gv : Value) (G : List TyD) (W : World) (hG0 : GrAt W gv G) (hz : GrZ G) :
    Calls Tryz.prog 58 #[gv, .slice none 0 0] W fun e w' => e = .returned (.int .i64 (checkedR G [])) ∧ Below W.heap.size W w' :=
  refChecked_any gv G W hG0 hz _ [] ⟨none, 0, rfl, Nat.le_refl _, by decide, fun q x hx => by simp at hx⟩
set_option maxRecDepth 100000 in
set_option maxHeartbeats 8000000 in
theorem refEqual_any (gv : Value) (G : List TyD) (i j : Int) (W : World) (hG0 : GrAt W gv G) (hz : GrZ G) :
    Calls Tryz.prog 24 #[gv, .int .i64 i, .int .i64 j] W fun e w' => e = .returned (.tuple #[.bool (equalL G i j).1, .int .i64 (equalL G i j).2]) ∧ Below W.heap.size W w' := by
  obtain ⟨o, cap, rfl⟩ := hG0.form
  have hbA := (Below.refl W.heap.size W).alloc (Nat.le_refl _) (.cells #[.int .i64 i, .int .i64 j] 3)
  have HC := hide (refChecked_two _ G i j W hG0 hz)
  by_cases h0 : checkedR G [i, j] = 0
  · obtain ⟨a, b, rfl, rfl, ha, hb⟩ := checked_ij h0
    have hc := (checkedR_zero.1 h0).1
    have HX := Lib.hid (show equalL G a b = (decide (clF G a = clF G b), 0) by unfold equalL; rw [if_neg (by simp [h0])]; rfl)
    have HK := hide (fun (w1 : World) (h : Below W.heap.size W w1) => refClasses_any _ G w1 (hG0.below h) hz hc)
    rw [h0] at HC
    have ha' : (a : Int) < G.length := by omega
    have hb' : (b : Int) < G.length := by omega
    have HA := Lib.hid ha
    have HB := Lib.hid hb
    clear h0 hz hG0 hc ha hb
    obtain ⟨xa, hxa⟩ : ∃ x, clF G a = x := ⟨_, rfl⟩
    obtain ⟨xb, hxb⟩ : ∃ x, clF G b = x := ⟨_, rfl⟩
    have HXA := Lib.hid hxa
    have HXB := Lib.hid hxb
    clear hxa hxb
    go_enter Tryz.func24, Tryz.ntmps24
    go_wp2_with (first | (go_at_call 58; refine (unhide HC).mono ?_; clear HC; rintro e w1 ⟨rfl, hb1⟩; have hb1' := hbA.trans (hb1.mono hbA.size)) | (go_at_call 65; refine (unhide HK w1 hb1').mono ?_; clear HK; rintro e w3 ⟨g3, rfl, hr3, hb3⟩; have hca := hr3.at HA.out; have hcb := hr3.at HB.out; rw [HXA.out] at hca; rw [HXB.out] at hcb; have hbe := hb1'.trans (hb3.mono hb1'.size); have hBD := fun nq => below_drewN' hbe nq))
    have hs : ((xa : Int) == xb) = decide (xa = xb) := by rw [Bool.eq_iff_iff]; simp; omega
    go_quiet (fail)
    go_wp2
    go_ret2
    exact ⟨by rw [HX.out, HXA.out, HXB.out]; rfl, hBD _⟩
  · have HX := Lib.hid (show equalL G i j = (false, checkedR G [i, j]) by unfold equalL; rw [if_pos h0])
    clear hG0 hz
    generalize checkedR G [i, j] = ck at h0 HC HX
    go_enter Tryz.func24, Tryz.ntmps24
    go_wp2_with (first | (go_at_call 58; refine (unhide HC).mono ?_; clear HC; rintro e w1 ⟨rfl, hb1⟩; have hb1' := hbA.trans (hb1.mono hbA.size)))
    go_ret2
    exact ⟨by rw [HX.out]; rfl, hb1'⟩
end Go.Proofs.YteaokkaidcbdlaaGreatDoor

namespace Go.Proofs.YteaokkaidcbdlaaGreatDoor
open Go Go.RowKit Go.Shelf
theorem wpAny_lex_rest {P : Program} {L : List Oper} {C : World → Prop} {Q : Exit → Act → World → Prop} {a : Act} {w : World} (k fuel : Nat) (listed : Array Bool) (hf : fuel = (L.drop k).length) (hs : Region.noSelect L.toArray = true)
    (hB : Region.lexFrom .any L.toArray fuel k listed = true) (hC : C w) (h : wpQuiet P L.toArray C (fun a' => ∀ w', C w' → Q .normal a' w') (L.drop k) a) : wpAny P .any L.toArray Q fuel listed a w := by
  subst hf
  exact wpAny_of_quiet (Q := fun a' => ∀ w', C w' → Q .normal a' w') (fun _ w' hw' h => h w' hw') _ _ _ _ hC (wpAnyQ_lex (C := C) (md := .any) hs (L.drop k) k listed a (fun j => by simp [List.getElem?_drop]) hB h)
theorem zip_mem {A B : List Int} {l : List (Int × Int)} (hlen : A.length = B.length) (h : ∀ q (h1 : q < A.length) (h2 : q < B.length), (A[q], B[q]) ∈ l) : ∀ p ∈ A.zip B, p ∈ l := by
  intro p hp
  obtain ⟨q, hq, rfl⟩ := List.mem_iff_getElem.1 hp
  rw [List.length_zip] at hq
  rw [List.getElem_zip]
  exact h q (by omega) (by omega)
set_option maxRecDepth 100000 in
set_option maxHeartbeats 16000000 in
theorem refCkEqual_any (gv vl : Value) (G : List TyD) (l : List (Int × Int)) (W : World) (hG0 : GrAt W gv G) (hz : GrZ G) (hl : SliceOf 2 (PairAt W) vl l) :
    Calls Tryz.prog 26 #[gv, vl] W fun e w' => e = .returned (.tuple #[.bool (ckEqualL G l).1, .int .i64 (ckEqualL G l).2]) ∧ Below W.heap.size W w' := by
  obtain ⟨o, cap, rfl⟩ := hG0.form
  obtain ⟨ow, cw, rfl⟩ := hl.form
  have HC := hide (refChecked_none _ G W hG0 hz)
  obtain ⟨-, hml, -, hat⟩ := hl.at
  by_cases h0 : checkedR G [] = 0
  · have hc := (checkedR_zero.1 h0).1
    rw [h0] at HC
    by_cases hbig : 2000 < l.length
    · have HX := Lib.hid (show ckEqualL G l = (false, 2) by unfold ckEqualL; rw [if_neg (by simp [h0]), if_pos hbig])
      have hb' : (2000 : Int) < l.length := by omega
      clear h0 hc hz hG0 hl hbig hat hml
      generalize l.length = n at hb' ⊢
      go_enter Tryz.func26, Tryz.ntmps26
      go_wp2_with (first | (go_at_call 58; refine (unhide HC).mono ?_; clear HC; rintro e w1 ⟨rfl, hb1⟩))
      go_ret2
      exact ⟨by rw [HX.out]; rfl, hb1⟩
    · have HX := Lib.hid (show ckEqualL G l = (closedB G l, 0) by unfold ckEqualL; rw [if_neg (by simp [h0]), if_neg hbig])
      have hb' : ¬ (2000 : Int) < l.length := by omega
      obtain ⟨hlen, hR, hzz⟩ := check_fit hz hc
      have HTY := hide (fun i hi => check_ty hc i hi)
      have HRS := hide (fun i (hi : i < G.length) => refs_results hc hi)
      have HCELLS := hide (fun i (hi : i < G.length) => hG0.cells hi)
      have HCK := hide (fun (i j : Int) (w : World) (h : Below W.heap.size W w) => refChecked_two _ G i j w (hG0.below h) hz)
      have HCKR := hide (fun (i j : Int) => (show checkedR G [i, j] = if idxB G.length i && idxB G.length j then 0 else 1 by
        unfold checkedR; rw [if_neg (by simp [hc])]; simp))
      have HPR := hide (fun (i j : Int) (w : World) (h : Below W.heap.size W w) => refPaired_any (.slice ow l.length cw) l i j w (PairAt.sl hl h))
      have HAT := hide hat
      obtain ⟨n, hn⟩ : ∃ n, l.length = n := ⟨_, rfl⟩
      have HN := Lib.hid hn
      rw [hn] at hb' HPR ⊢
      clear hn h0 hG0 hl hbig hat hml hz hc
      go_enter Tryz.func26, Tryz.ntmps26
      go_wp2_with (first | (go_at_call 58; refine (unhide HC).mono ?_; clear HC; rintro e w1 ⟨rfl, hb1⟩))
      go_loopg [7] n (fun g i wr => ∃ k : Nat, k ≤ n ∧ g = n - k ∧ i = .int .i64 k ∧ Below W.heap.size W wr ∧ Hid ((l.take k).all (oneP G l) = true))
      case atStart => exact ⟨0, Nat.zero_le _, rfl, rfl, hb1, Lib.hid rfl⟩
      case round =>
        clear hb1
        obtain ⟨k, hk, hgk, rfl, hbw, HT⟩ := hrel
        by_cases hlt : k < n
        · have hlt' : (k : Int) < n := by omega
          have hkl : k < l.length := by rw [HN.out]; exact hlt
          obtain ⟨bl, offl, rfl, e0, e1⟩ := unhide HAT k l[k] (List.getElem?_eq_getElem hkl)
          replace e0 := Holds.below hbw _ _ e0
          replace e1 := Holds.below hbw _ _ e1
          have HNO := fun (h : oneP G l l[k] = false) => Lib.hid (closedB_no hkl h)
          have HYES := fun (h : oneP G l l[k] = true) => Lib.hid (take_all_next hkl HT.out h)
          obtain ⟨p, hp⟩ : ∃ p, l[k] = p := ⟨_, rfl⟩
          rw [hp] at e0 e1 HNO HYES
          obtain ⟨x, y⟩ := p
          simp only at e0 e1
          clear hp HT
          have HCx := hide (fun w (h : Below wr.heap.size wr w) => unhide HCK x y w (hbw.trans (h.mono hbw.size)))
          rw [unhide HCKR x y] at HCx
          have hbA : Below wr.heap.size wr (wr.alloc (.cells #[.int .i64 x, .int .i64 y] 3)) := (Below.refl _ _).alloc (Nat.le_refl _) _
          go_upto_region 11 with fail
          go_cut [58] from 41 to 58 (fun v wx => v = .bool (!(idxB G.length x && (idxB G.length y && agP G (x, y)))) ∧ Below wr.heap.size wr wx)
          case first =>
            have hbE : Below wr.heap.size wr wr.drew := ⟨rfl, rfl, rfl, Nat.le_refl _, fun _ _ => rfl⟩
            have hbEA : Below wr.heap.size wr (wr.drew.alloc (.cells #[.int .i64 x, .int .i64 y] 3)) := hbE.alloc (Nat.le_refl _) _
            clear hbA HNO HYES
            cases hbb : (idxB G.length x && idxB G.length y)
            · have HF := Lib.hid (show (!(idxB G.length x && (idxB G.length y && agP G (x, y)))) = true by rw [← Bool.and_assoc, hbb]; rfl)
              rw [hbb, if_neg (by simp)] at HCx
              clear hbb e0 e1
              refine wp_region_any (by kernel_rfl) ?_
              change wpAny _ _ _ _ _ _ _ (World.drew _)
              refine wpAny_take (i := 0) rfl (by kernel_rfl) (by kernel_rfl) (by kernel_rfl) (fun _ _ _ h => h) (Or.inl ⟨by rfl, (by intro w; go_simp; first | done | with_reducible rfl)⟩) ?_
              refine wpAny_take (i := 1) rfl (by kernel_rfl) (by kernel_rfl) (by kernel_rfl) (fun _ _ _ h => h) (Or.inl ⟨by rfl, (by intro w; go_simp; first | done | with_reducible rfl)⟩) ?_
              refine wpAny_take (i := 2) rfl (by kernel_rfl) (by kernel_rfl) (by kernel_rfl) (fun _ _ _ h => h) (Or.inl ⟨by rfl, (by intro w; go_simp; first | done | with_reducible rfl)⟩) ?_
              refine wpAny_ready (rs := [3]) (by kernel_rfl) (by simp) ?_
              refine AllReady.cons rfl (fun K hK => ?_) AllReady.nil
              go_simp
              refine hK _ _ ?_
              clear hK K
              refine wpAny_ready (rs := [4]) (by kernel_rfl) (by simp) ?_
              refine AllReady.cons rfl (fun K hK => ?_) AllReady.nil
              go_simp
              refine (unhide HCx _ hbE).mono ?_
              clear HCx
              rintro e w2 ⟨rfl, hb2⟩
              have hb3 := hbEA.trans (hb2.mono hbEA.size)
              go_simp
              refine hK _ _ ?_
              clear hK K
              refine wpAny_lex_rest (C := fun w' => Below wr.heap.size wr w') 5 _ _ rfl (by kernel_rfl) (by kernel_rfl) hb3 ?_
              simp only [List.drop_succ_cons, List.drop_zero]
              repeat (first
                | go_big_quiet_skip
                | (go_big_quiet_want; go_big_quiet_op; first
                  | go_big_quiet_on
                  | (refine ⟨_, fun _ _ => rfl, ?_⟩; go_big_quiet_on)
              ))
              refine wpQuiet_nil ?_
              rintro w3 hb4
              go_wp2
              go_meet
              exact ⟨by rw [HF.out], hb4⟩
            · have hbb2 := hbb
              rw [Bool.and_eq_true] at hbb2
              obtain ⟨i, rfl⟩ := Int.eq_ofNat_of_zero_le (idxB_iff.1 hbb2.1).1
              obtain ⟨j, rfl⟩ := Int.eq_ofNat_of_zero_le (idxB_iff.1 hbb2.2).1
              have hi : i < G.length := by have := (idxB_iff.1 hbb2.1).2; omega
              have hj : j < G.length := by have := (idxB_iff.1 hbb2.2).2; omega
              obtain ⟨b, off, u1, u2, u3, rfl, gl1, hc1⟩ := unhide HCELLS i hi
              obtain ⟨b', off', v1, v2, v3, e', gl2, hc2⟩ := unhide HCELLS j hj
              cases e'
              have gd1 : G.getD i default = G[i] := by simp [List.getD_eq_getElem?_getD, hi]
              have gd2 : G.getD j default = G[j] := by simp [List.getD_eq_getElem?_getD, hj]
              have hag : agR G[i] G[j] = agP G ((i : Int), (j : Int)) := by
                have t1 := unhide HTY i hi
                have t2 := unhide HTY j hj
                unfold agP
                simp only [Int.toNat_natCast]
                rw [gd1] at t1 ⊢
                rw [gd2] at t2 ⊢
                exact agR_checked t1 t2
              have HA := hide (fun w (h : Below wr.heap.size wr w) => refAgree_any G[i] G[j] u1 u2 u3 v1 v2 v3 w (gl1.go (.below (hbw.trans (h.mono hbw.size)))) (gl2.go (.below (hbw.trans (h.mono hbw.size)))))
              rw [hag] at HA
              obtain ⟨bb, hb3'⟩ : ∃ bb, agP G ((i : Int), (j : Int)) = bb := ⟨_, rfl⟩
              have HF := Lib.hid (show (!(idxB G.length (i : Int) && (idxB G.length (j : Int) && agP G ((i : Int), (j : Int))))) = !bb by rw [← Bool.and_assoc, hbb, hb3']; rfl)
              rw [hb3'] at HA
              clear hb3'
              rw [hbb, if_pos rfl] at HCx
              have hK1 := (fun w (h : Below wr.heap.size wr w) => hc1 w (.below (hbw.trans (h.mono hbw.size))))
              have hK2 := (fun w (h : Below wr.heap.size wr w) => hc2 w (.below (hbw.trans (h.mono hbw.size))))
              have i1 : (i : Int) < G.length := by omega
              have i2 : (j : Int) < G.length := by omega
              clear hbb hbb2 e0 e1 gd1 gd2 hag hc1 hc2 gl1 gl2
              generalize G[i] = ti at HA hK1
              generalize G[j] = tj at HA hK2
              refine wp_region_any (by kernel_rfl) ?_
              change wpAny _ _ _ _ _ _ _ (World.drew _)
              refine wpAny_take (i := 0) rfl (by kernel_rfl) (by kernel_rfl) (by kernel_rfl) (fun _ _ _ h => h) (Or.inl ⟨by rfl, (by intro w; go_simp; first | done | with_reducible rfl)⟩) ?_
              refine wpAny_take (i := 1) rfl (by kernel_rfl) (by kernel_rfl) (by kernel_rfl) (fun _ _ _ h => h) (Or.inl ⟨by rfl, (by intro w; go_simp; first | done | with_reducible rfl)⟩) ?_
              refine wpAny_take (i := 2) rfl (by kernel_rfl) (by kernel_rfl) (by kernel_rfl) (fun _ _ _ h => h) (Or.inl ⟨by rfl, (by intro w; go_simp; first | done | with_reducible rfl)⟩) ?_
              refine wpAny_ready (rs := [3]) (by kernel_rfl) (by simp) ?_
              refine AllReady.cons rfl (fun K hK => ?_) AllReady.nil
              go_simp
              refine hK _ _ ?_
              clear hK K
              refine wpAny_ready (rs := [4]) (by kernel_rfl) (by simp) ?_
              refine AllReady.cons rfl (fun K hK => ?_) AllReady.nil
              go_simp
              refine (unhide HCx _ hbE).mono ?_
              clear HCx
              rintro e w2 ⟨rfl, hb2⟩
              have hb3 := hbEA.trans (hb2.mono hbEA.size)
              go_simp
              refine hK _ _ ?_
              clear hK K
              refine wpAny_lex_rest (C := fun w' => Below wr.heap.size wr w') 5 _ _ rfl (by kernel_rfl) (by kernel_rfl) hb3 ?_
              simp only [List.drop_succ_cons, List.drop_zero]
              repeat (first
                | go_big_quiet_skip
                | (go_big_quiet_want; go_big_quiet_op; first
                  | go_big_quiet_on
                  | (refine ⟨_, fun _ _ => rfl, ?_⟩; go_big_quiet_on)
                  | (refine ⟨tyVal ti u1 u2 u3, ?_, ?_⟩
                     · intro w1 hb
                       have e0 := hK1 w1 hb 0 _ rfl
                       have e1 := hK1 w1 hb 1 _ rfl
                       have e2 := hK1 w1 hb 2 _ rfl
                       have e3 := hK1 w1 hb 3 _ rfl
                       have e4 := hK1 w1 hb 4 _ rfl
                       have e5 := hK1 w1 hb 5 _ rfl
                       have e6 := hK1 w1 hb 6 _ rfl
                       have e7 := hK1 w1 hb 7 _ rfl
                       have e8 := hK1 w1 hb 8 _ rfl
                       have e9 := hK1 w1 hb 9 _ rfl
                       rw [Nat.add_zero] at e0
                       simp [e0, e1, e2, e3, e4, e5, e6, e7, e8, e9, tyVal, go_sem]
                       done
                     go_big_quiet_on)
                  | (refine ⟨tyVal tj v1 v2 v3, ?_, ?_⟩
                     · intro w1 hb
                       have e0 := hK2 w1 hb 0 _ rfl
                       have e1 := hK2 w1 hb 1 _ rfl
                       have e2 := hK2 w1 hb 2 _ rfl
                       have e3 := hK2 w1 hb 3 _ rfl
                       have e4 := hK2 w1 hb 4 _ rfl
                       have e5 := hK2 w1 hb 5 _ rfl
                       have e6 := hK2 w1 hb 6 _ rfl
                       have e7 := hK2 w1 hb 7 _ rfl
                       have e8 := hK2 w1 hb 8 _ rfl
                       have e9 := hK2 w1 hb 9 _ rfl
                       rw [Nat.add_zero] at e0
                       simp [e0, e1, e2, e3, e4, e5, e6, e7, e8, e9, tyVal, go_sem]
                       done
                     go_big_quiet_on)
                  | (apply Exists.intro
                     refine ⟨fun w1 hb => ?_, ?_⟩
                     · with_reducible refine (unhide HA w1 hb).mono ?_
                       rintro e w2 ⟨rfl, hb2⟩
                       exact ⟨rfl, hb.trans (hb2.mono hb.size)⟩
                     go_big_quiet_on)))
              refine wpQuiet_nil ?_
              rintro w3 hb4
              go_wp2
              go_meet
              exact ⟨by rw [HF.out], hb4⟩
          case rest =>
          obtain ⟨rfl, hbx⟩ := hcut
          have hbw2 := hbw.trans (hbx.mono hbw.size)
          rcases hbx1 : idxB G.length x with _ | _
          · have HF := HNO (oneP_no (.inl hbx1))
            rw [Bool.false_and, Bool.not_false]
            clear HNO HYES
            go_wp2
            go_ret2
            exact ⟨by rw [HX.out, HF.out]; rfl, hbw2⟩
          rcases hby1 : idxB G.length y with _ | _
          · have HF := HNO (oneP_no (.inr (.inl hby1)))
            rw [Bool.false_and, Bool.and_false, Bool.not_false]
            clear HNO HYES
            go_wp2
            go_ret2
            exact ⟨by rw [HX.out, HF.out]; rfl, hbw2⟩
          rcases hag1 : agP G (x, y) with _ | _
          · have HF := HNO (oneP_no (.inr (.inr (.inl hag1))))
            rw [Bool.and_false, Bool.and_false, Bool.not_false]
            clear HNO HYES
            go_wp2
            go_ret2
            exact ⟨by rw [HX.out, HF.out]; rfl, hbw2⟩
          obtain ⟨i, rfl⟩ := Int.eq_ofNat_of_zero_le (idxB_iff.1 hbx1).1
          obtain ⟨j, rfl⟩ := Int.eq_ofNat_of_zero_le (idxB_iff.1 hby1).1
          have hi : i < G.length := by have := (idxB_iff.1 hbx1).2; omega
          have hj : j < G.length := by have := (idxB_iff.1 hby1).2; omega
          obtain ⟨b, off, u1, u2, u3, rfl, gl1, hc1⟩ := unhide HCELLS i hi
          obtain ⟨b', off', v1, v2, v3, e', gl2, hc2⟩ := unhide HCELLS j hj
          cases e'
          have gd1 : G.getD i default = G[i] := by simp [List.getD_eq_getElem?_getD, hi]
          have gd2 : G.getD j default = G[j] := by simp [List.getD_eq_getElem?_getD, hj]
          have hsl : (refsOf G[i]).length = (refsOf G[j]).length := by
            have := hag1
            unfold agP at this
            simp only [Int.toNat_natCast] at this
            rw [gd1, gd2] at this
            exact agree_refs this
          have HREF := Lib.hid (show refP G ((i : Int), (j : Int)) = (refsOf G[i]).zip (refsOf G[j]) by unfold refP; simp only [Int.toNat_natCast]; rw [gd1, gd2])
          have HR1 := hide (fun w (h : Below W.heap.size W w) => refRefs_any G[i] u1 u2 u3 w (gl1.go (.below h)) (hR _ (List.getElem_mem hi)) (by have := unhide HRS i hi; rw [gd1] at this; exact this))
          have HR2 := hide (fun w (h : Below W.heap.size W w) => refRefs_any G[j] v1 v2 v3 w (gl2.go (.below h)) (hR _ (List.getElem_mem hj)) (by have := unhide HRS j hj; rw [gd2] at this; exact this))
          have HLB := Lib.hid (hR _ (List.getElem_mem hi))
          have HC1 := hide hc1
          have HC2 := hide hc2
          have HID := Lib.hid (show idxB G.length (i : Int) = true ∧ idxB G.length (j : Int) = true ∧ agP G ((i : Int), (j : Int)) = true from ⟨hbx1, hby1, hag1⟩)
          rw [Bool.true_and, Bool.true_and, Bool.not_true]
          clear hbx1 hby1 hag1 gd1 gd2 hc1 hc2 gl1 gl2
          generalize G[i] = ti at HR1 HREF hsl HLB HC1
          generalize G[j] = tj at HR2 HREF hsl HC2
          have i1 : (i : Int) < G.length := by omega
          have i2 : (j : Int) < G.length := by omega
          have LL := hide hbw2
          have k1 := unhide HC1 _ (.below hbw2)
          have a0 := k1 0 _ rfl; have a1 := k1 1 _ rfl; have a2 := k1 2 _ rfl; have a3 := k1 3 _ rfl; have a4 := k1 4 _ rfl; have a5 := k1 5 _ rfl; have a6 := k1 6 _ rfl; have a7 := k1 7 _ rfl; have a8 := k1 8 _ rfl; have a9 := k1 9 _ rfl
          rw [Nat.add_zero] at a0
          clear k1 hbw hbx hbw2 e0 e1 hbA HCx
          go_wp2_with fail
          refine (unhide HR1 _ (unhide LL)).mono ?_
          rintro e7 w7 ⟨v7, rfl, r7, hb7⟩
          unfold ownInts at r7
          obtain ⟨o7, c7, rfl⟩ := row_form r7
          have L7 := (unhide LL).trans (hb7.mono (unhide LL).size)
          have k2 := unhide HC2 w7 (.below L7)
          clear a0 a1 a2 a3 a4 a5 a6 a7 a8 a9
          have a0 := k2 0 _ rfl; have a1 := k2 1 _ rfl; have a2 := k2 2 _ rfl; have a3 := k2 3 _ rfl; have a4 := k2 4 _ rfl; have a5 := k2 5 _ rfl; have a6 := k2 6 _ rfl; have a7 := k2 7 _ rfl; have a8 := k2 8 _ rfl; have a9 := k2 9 _ rfl
          rw [Nat.add_zero] at a0
          clear k2
          have L7' := hide L7
          have r7' := hide r7
          clear L7 r7 hb7
          go_wp2_with fail
          refine (unhide HR2 _ (unhide L7')).mono ?_
          rintro e8 w8 ⟨v8, rfl, r8, hb8⟩
          unfold ownInts at r8
          obtain ⟨o8, c8, rfl⟩ := row_form r8
          have L8 := hide ((unhide L7').trans (hb8.mono (unhide L7').size))
          clear a0 a1 a2 a3 a4 a5 a6 a7 a8 a9
          have R7 := hide (Row.below (unhide r7') hb8)
          have R8 := hide r8
          rw [← hsl]
          obtain ⟨LN, hLN⟩ : ∃ LN, (refsOf ti).length = LN := ⟨_, rfl⟩
          have HLN := Lib.hid hLN
          have HSL := Lib.hid hsl
          have hLN63 : LN ≤ 100000 := by rw [← hLN]; exact HLB.out
          rw [hLN]
          clear hLN hsl r8 hb8
          go_wp2
          go_loopg [12] LN (fun g v wr => ∃ q : Nat, q ≤ LN ∧ g = LN - q ∧ v = .int .i64 q ∧ Below w8.heap.size w8 wr ∧ Hid (∀ z (h1 : z < (refsOf ti).length) (h2 : z < (refsOf tj).length), z < q → ((refsOf ti)[z], (refsOf tj)[z]) ∈ l))
          case atStart => exact ⟨0, Nat.zero_le _, rfl, rfl, Below.refl _ _, Lib.hid (fun z _ _ h => absurd h (by omega))⟩
          case round =>
            obtain ⟨q, hq, hgq, rfl, hbv, HQ⟩ := hrel
            have hbwv := (unhide L8).trans (hbv.mono (unhide L8).size)
            by_cases hqn : q < LN
            · have hqn' : (q : Int) < LN := by omega
              have h1 : q < (refsOf ti).length := by rw [HLN.out]; exact hqn
              have h2 : q < (refsOf tj).length := by rw [← HSL.out]; exact h1
              have rA := Row.below (unhide R7) hbv
              have rB := Row.below (unhide R8) hbv
              obtain ⟨gA, rfl, -, cA⟩ := row_cell rA q h1
              obtain ⟨gB, rfl, -, cB⟩ := row_cell rB q h2
              have hP0 : ∀ w, Below wr.heap.size wr w → Calls Tryz.prog 67 #[.slice (some ⟨bl, offl, none⟩) n cw, .int .i64 (refsOf ti)[q], .int .i64 (refsOf tj)[q]] w fun e w' => e = .returned (.bool (decide (((refsOf ti)[q], (refsOf tj)[q]) ∈ l))) ∧ Below w.heap.size w w' :=
                fun w h => (unhide HPR (refsOf ti)[q] (refsOf tj)[q] w (hbwv.trans (h.mono hbwv.size))).mono fun e w' ⟨a, b⟩ => ⟨a, b ▸ Below.refl _ _⟩
              have HP := hide hP0
              clear hP0
              have P0 : ∀ w, Below wr.heap.size wr w → w.cell? ⟨gA, q, none⟩ = some (.int .i64 (refsOf ti)[q]) := fun w h => Holds.below h _ _ cA
              have P1 : ∀ w, Below wr.heap.size wr w → w.cell? ⟨gB, q, none⟩ = some (.int .i64 (refsOf tj)[q]) := fun w h => Holds.below h _ _ cB
              have HYQ := fun (h : ((refsOf ti)[q], (refsOf tj)[q]) ∈ l) => Lib.hid (show ∀ z (h1 : z < (refsOf ti).length) (h2 : z < (refsOf tj).length), z < q + 1 → ((refsOf ti)[z], (refsOf tj)[z]) ∈ l from fun z h1 h2 hz => by
                rcases Nat.lt_or_ge z q with h3 | h3
                · exact HQ.out z h1 h2 h3
                · obtain rfl : z = q := by omega
                  exact h)
              have HNQ := fun (h : ((refsOf ti)[q], (refsOf tj)[q]) ∉ l) => HNO (oneP_no (.inr (.inr (.inr ⟨_, by rw [HREF.out]; exact List.mem_iff_getElem.2 ⟨q, by rw [List.length_zip]; omega, List.getElem_zip⟩, h⟩))))
              clear rA rB cA cB HQ
              generalize (refsOf ti)[q] = px at HP P0 HYQ HNQ
              generalize (refsOf tj)[q] = py at HP P1 HYQ HNQ
              by_cases hin : (px, py) ∈ l
              · have HZ := HYQ hin
                rw [decide_eq_true hin] at HP
                clear HYQ HNQ hin
                go_wp2_with fail
                refine wp_region_quiet (C := fun w' => Below wr.heap.size wr w') (by kernel_rfl) (by kernel_rfl) (below_drewN' (Below.refl _ _) 1) ?_
                simp only []
                repeat (first
                  | go_big_quiet_skip
                  | (go_big_quiet_want; go_big_quiet_op; first
                    | go_big_quiet_on
                    | (refine ⟨_, fun _ _ => rfl, ?_⟩; go_big_quiet_on)
                    | (refine ⟨.int .i64 px, ?_, ?_⟩
                       · intro w1 hb
                         have e := P0 w1 hb
                         simp [e, go_sem]
                         done
                       go_big_quiet_on)
                    | (refine ⟨.int .i64 py, ?_, ?_⟩
                       · intro w1 hb
                         have e := P1 w1 hb
                         simp [e, go_sem]
                         done
                       go_big_quiet_on)
                    | (apply Exists.intro
                       refine ⟨fun w1 hb => ?_, ?_⟩
                       · with_reducible refine (unhide HP w1 hb).mono ?_
                         rintro e w2 ⟨rfl, hb2⟩
                         exact ⟨rfl, hb.trans (hb2.mono hb.size)⟩
                       go_big_quiet_on)))
                refine wpQuiet_nil ?_
                rintro w9 hb9
                have hbv9 := hbv.trans (hb9.mono hbv.size)
                clear HP P0 P1
                go_wp2
                go_roundg (LN - (q + 1))
                case measure => omega
                case rel => exact ⟨q + 1, by omega, rfl, by go_num, hbv9, HZ⟩
              · have HZ := HNQ hin
                rw [decide_eq_false hin] at HP
                clear HYQ HNQ hin
                go_wp2_with fail
                refine wp_region_quiet (C := fun w' => Below wr.heap.size wr w') (by kernel_rfl) (by kernel_rfl) (below_drewN' (Below.refl _ _) 1) ?_
                simp only []
                repeat (first
                  | go_big_quiet_skip
                  | (go_big_quiet_want; go_big_quiet_op; first
                    | go_big_quiet_on
                    | (refine ⟨_, fun _ _ => rfl, ?_⟩; go_big_quiet_on)
                    | (refine ⟨.int .i64 px, ?_, ?_⟩
                       · intro w1 hb
                         have e := P0 w1 hb
                         simp [e, go_sem]
                         done
                       go_big_quiet_on)
                    | (refine ⟨.int .i64 py, ?_, ?_⟩
                       · intro w1 hb
                         have e := P1 w1 hb
                         simp [e, go_sem]
                         done
                       go_big_quiet_on)
                    | (apply Exists.intro
                       refine ⟨fun w1 hb => ?_, ?_⟩
                       · with_reducible refine (unhide HP w1 hb).mono ?_
                         rintro e w2 ⟨rfl, hb2⟩
                         exact ⟨rfl, hb.trans (hb2.mono hb.size)⟩
                       go_big_quiet_on)))
                refine wpQuiet_nil ?_
                rintro w9 hb9
                have hbv9 := hbwv.trans (hb9.mono hbwv.size)
                clear HP P0 P1
                go_wp2
                go_ret2
                exact ⟨by rw [HX.out, HZ.out]; rfl, hbv9⟩
            · have hge : ¬ (q : Int) < LN := by omega
              have HZ := HYES (oneP_iff.2 ⟨HID.out.1, HID.out.2.1, HID.out.2.2, by
                rw [HREF.out]
                exact zip_mem HSL.out (fun z h1 h2 => HQ.out z h1 h2 (by rw [HLN.out] at h1; omega))⟩)
              clear HQ HYES HNO
              go_wp2
              go_roundg (n - (k + 1))
              case measure => omega
              case rel => exact ⟨k + 1, by omega, rfl, by go_num, hbwv, HZ⟩
        · have hkn : k = n := by omega
          have HY := Lib.hid (closedB_all (G := G) (l := l) (by rw [HN.out, ← hkn]; exact HT.out))
          have hge : ¬ (k : Int) < n := by omega
          clear HT hkn
          go_wp2
          go_ret2
          exact ⟨by rw [HX.out, HY.out]; rfl, hbw⟩
  · have HX := Lib.hid (show ckEqualL G l = (false, checkedR G []) by unfold ckEqualL; rw [if_pos h0])
    clear hG0 hz hl hat hml
    generalize checkedR G [] = ck at h0 HC HX
    go_enter Tryz.func26, Tryz.ntmps26
    go_wp2_with (first | (go_at_call 58; refine (unhide HC).mono ?_; clear HC; rintro e w1 ⟨rfl, hb1⟩))
    go_ret2
    exact ⟨by rw [HX.out]; rfl, hb1⟩
end Go.Proofs.YteaokkaidcbdlaaGreatDoor

namespace Go.Proofs.YteaokkaidcbdlaaGreatDoor
open Go Go.RowKit Go.Shelf
set_option maxRecDepth 100000 in
set_option maxHeartbeats 8000000 in
theorem equal_law (gv vl : Value) (G : List TyD) (a b : Int) (l : List (Int × Int)) (W : World) (hG : GrAt W gv G) (hq : ∀ t ∈ G, TyZ t ∧ t.kind < 256) (hl : SliceOf 2 (PairAt W) vl l) (hok : ∀ p ∈ l, okI p.1 ∧ okI p.2) (hP : P10 W.heap.size W) :
    Calls Tryz.prog 4 #[gv, .int .i64 a, .int .i64 b, vl] W fun e w' => e = .returned (.bool true) ∧ Below W.heap.size W w' := by
  have HL := hide (light_any gv G W hG)
  have HAl := hide (fun w (h : Below W.heap.size W w) => alive_any w (hP.more h))
  obtain ⟨ow, cw, rfl⟩ := hl.form
  cases hlt : lightB G with
  | false =>
    rw [hlt] at HL
    obtain ⟨o, cap, rfl⟩ := hG.form
    clear hG hP hq hl hok
    generalize l.length = n
    go_enter Tryz.func4, Tryz.ntmps4
    go_wp2_with (first | (go_at_call 13; refine (unhide HL).mono ?_; rintro e w1 ⟨rfl, hb1⟩) | (go_at_call 14; refine (unhide HAl _ hb1).mono ?_; rintro e w2 ⟨rfl, hb2⟩))
    go_ret
    exact ⟨rfl, hb1.trans (hb2.mono hb1.size)⟩
  | true =>
    rw [hlt] at HL
    have hz := light_z hq hlt
    have H23 := hide (fun w (h : Below W.heap.size W w) => equal_all gv G a b w (hG.below h) hz)
    have H24 := hide (fun w (h : Below W.heap.size W w) => refEqual_any gv G a b w (hG.below h) hz)
    have H25 := hide (fun w (h : Below W.heap.size W w) => checkEqual_all gv _ G l w (hG.below h) hz (PairAt.sl hl h) hok)
    have H26 := hide (fun w (h : Below W.heap.size W w) => refCkEqual_any gv _ G l w (hG.below h) hz (PairAt.sl hl h))
    obtain ⟨o, cap, rfl⟩ := hG.form
    generalize (equalL G a b).1 = c1 at H23 H24
    generalize (equalL G a b).2 = c2 at H23 H24
    generalize (ckEqualL G l).1 = d1 at H25 H26
    generalize (ckEqualL G l).2 = d2 at H25 H26
    clear hG hP hq hl hok hz hlt
    generalize l.length = n at H25 H26 ⊢
    rcases (show n ≤ 60 ∨ (60 < n ∧ n ≤ 2000) ∨ (60 < n ∧ 2000 < n ∧ n ≤ 2003) ∨ (60 < n ∧ 2000 < n ∧ 2003 < n) by omega) with h | ⟨h, h'⟩ | ⟨h, h', h''⟩ | ⟨h, h', h''⟩
    · have k1 : ¬ (60 : Int) < n := by omega
      have k2 : ¬ (2003 : Int) < n := by omega
      clear h
      go_enter Tryz.func4, Tryz.ntmps4
      go_wp2_with fail
      refine (unhide HL).mono ?_
      rintro e w1 ⟨rfl, hb1⟩
      go_wp2_with fail
      refine (unhide H23 _ hb1).mono ?_
      rintro e w2 ⟨rfl, hb2⟩
      have L2 := hb1.trans (hb2.mono hb1.size)
      go_wp2_with fail
      refine (unhide H24 _ L2).mono ?_
      rintro e w3 ⟨rfl, hb3⟩
      have L3 := L2.trans (hb3.mono L2.size)
      go_wp2_with fail
      refine (unhide H25 _ L3).mono ?_
      rintro e w4 ⟨rfl, hb4⟩
      have L4 := L3.trans (hb4.mono L3.size)
      go_wp2_with fail
      refine (unhide H26 _ L4).mono ?_
      rintro e w5 ⟨rfl, hb5⟩
      have L5 := hide (L4.trans (hb5.mono L4.size))
      clear hb1 hb2 hb3 hb4 hb5 L2 L3 L4 HL H23 H24 H25 H26
      go_wp2_with fail
      refine (unhide HAl _ (unhide L5)).mono ?_
      rintro e w6 ⟨rfl, hb6⟩
      have q1 : (c1 == c1) = true := by simp
      have q2 : (c2 == c2) = true := by simp
      have q3 : (d1 == d1) = true := by simp
      have q4 : (d2 == d2) = true := by simp
      go_wp2
      go_ret
      exact ⟨rfl, (unhide L5).trans (hb6.mono (unhide L5).size)⟩
    · have k1 : (60 : Int) < n := by omega
      have k2 : (n : Int) ≤ 2000 := by omega
      clear h h' H23 H24 H25 H26
      go_enter Tryz.func4, Tryz.ntmps4
      go_wp2_with (first | (go_at_call 13; refine (unhide HL).mono ?_; rintro e w1 ⟨rfl, hb1⟩) | (go_at_call 14; refine (unhide HAl _ hb1).mono ?_; rintro e w2 ⟨rfl, hb2⟩))
      go_ret
      exact ⟨rfl, hb1.trans (hb2.mono hb1.size)⟩
    · have k1 : (60 : Int) < n := by omega
      have k2 : ¬ (n : Int) ≤ 2000 := by omega
      have k3 : ¬ (2003 : Int) < n := by omega
      clear h h' h''
      go_enter Tryz.func4, Tryz.ntmps4
      go_wp2_with fail
      refine (unhide HL).mono ?_
      rintro e w1 ⟨rfl, hb1⟩
      go_wp2_with fail
      refine (unhide H23 _ hb1).mono ?_
      rintro e w2 ⟨rfl, hb2⟩
      have L2 := hb1.trans (hb2.mono hb1.size)
      go_wp2_with fail
      refine (unhide H24 _ L2).mono ?_
      rintro e w3 ⟨rfl, hb3⟩
      have L3 := L2.trans (hb3.mono L2.size)
      go_wp2_with fail
      refine (unhide H25 _ L3).mono ?_
      rintro e w4 ⟨rfl, hb4⟩
      have L4 := L3.trans (hb4.mono L3.size)
      go_wp2_with fail
      refine (unhide H26 _ L4).mono ?_
      rintro e w5 ⟨rfl, hb5⟩
      have L5 := hide (L4.trans (hb5.mono L4.size))
      clear hb1 hb2 hb3 hb4 hb5 L2 L3 L4 HL H23 H24 H25 H26
      go_wp2_with fail
      refine (unhide HAl _ (unhide L5)).mono ?_
      rintro e w6 ⟨rfl, hb6⟩
      have q1 : (c1 == c1) = true := by simp
      have q2 : (c2 == c2) = true := by simp
      have q3 : (d1 == d1) = true := by simp
      have q4 : (d2 == d2) = true := by simp
      go_wp2
      go_ret
      exact ⟨rfl, (unhide L5).trans (hb6.mono (unhide L5).size)⟩
    · have k1 : (60 : Int) < n := by omega
      have k2 : ¬ (n : Int) ≤ 2000 := by omega
      have k3 : (2003 : Int) < n := by omega
      clear h h' h'' H23 H24 H25 H26
      go_enter Tryz.func4, Tryz.ntmps4
      go_wp2_with (first | (go_at_call 13; refine (unhide HL).mono ?_; rintro e w1 ⟨rfl, hb1⟩) | (go_at_call 14; refine (unhide HAl _ hb1).mono ?_; rintro e w2 ⟨rfl, hb2⟩))
      go_ret
      exact ⟨rfl, hb1.trans (hb2.mono hb1.size)⟩
end Go.Proofs.YteaokkaidcbdlaaGreatDoor

namespace Go.Proofs.YteaokkaidcbdlaaGreatDoor
open Go Go.RowKit Go.Shelf
open Go.ChangeShapes Go.WideShapes Go.ChangeAt
open Go.ChangeMaps (open_string shut_string)
set_option maxRecDepth 100000
theorem typesEqual_lifted (os : Os) (started : os.Started) (H : Type) (enc : TypeId × Value → H) :
    ReturnsInHanded {} Tryz.checked os 4 .any (fun w args => (Rows.typesEqualSpec.pre enc Tryz.prog Tryz.f4 Rows.typesEqualRow.domain false w args ∧ laidMetH Tryz.prog Rows.typesEqualRow.laid w) ∧ sizedMet enc Tryz.prog Tryz.f4 (OpenSpec.ofChange Rows.typesEqualSpec) false w args)
      (Rows.typesEqualSpec.post enc Tryz.prog Tryz.f4 false true false false) := by
  refine handed_both (C := Tryz.checked) (X := fun w _ => laidMetH Tryz.prog Rows.typesEqualRow.laid w) (fun _ _ _ hh h => h.of_heap hh) own started (by kernel_rfl) Tryz.func4
    (ChangeSpec.witness_shaped (enc := enc) (C := Tryz.checked) (os := os) (X := fun w _ => laidMetH Tryz.prog Rows.typesEqualRow.laid w) false (World.laidAll Tryz.prog os Rows.typesEqualRow.laid) #[.slice none 0 0, .int .i64 0, .int .i64 0, .slice none 0 0] 8 (World.laidAll_os _ _ _)
      (World.shaped_of_ZipB (by kernel_rfl) (by kernel_rfl)) (by kernel_rfl) (by kernel_rfl) (by kernel_rfl)
      (by rw [MakeChecks.laidMetH_plain _ _ _ (by kernel_rfl)]; exact laidMet_laidAll _ (by kernel_rfl) (by kernel_rfl))) ?_
  intro W base args ds gs before hval0 hW hL hsh
  have hval : ∀ (j : Nat) t v, Tryz.f4.params[j]? = some t → args[j]? = some v → Value.okWide Tryz.prog W .any base t v := hval0
  have hW' := hW
  obtain ⟨p, q, hA0, hV, rfl, _, _⟩ := hW
  have hA : DataW.TrodAll enc Tryz.prog W 0 (fun _ => true) true Tryz.f4.params.toList args.toList ds p := hA0
  rw [Tryz.params4] at hA hval
  obtain ⟨v0, v1, v2, v3, d0, d1, d2, d3, p0, p1, p2, p3, rfl, rfl, rfl, h0, h1, h2, h3⟩ := trodAll_four hA
  obtain ⟨rfl, rfl⟩ := trodVars_none hV
  obtain ⟨a0, l0, k0, rfl⟩ := okWide_slice Tryz.underlying23 (hval 0 23 v0 rfl rfl)
  obtain ⟨x1, rfl, rfl, rfl, w1⟩ := open_int Tryz.underlying3 (hval 1 3 v1 rfl rfl) h1
  obtain ⟨x2, rfl, rfl, rfl, w2⟩ := open_int Tryz.underlying3 (hval 2 3 v2 rfl rfl) h2
  obtain ⟨a3, l3, k3, rfl⟩ := okWide_slice Tryz.underlying33 (hval 3 33 v3 rfl rfl)
  simp only [List.append_nil] at hW'
  have hlt0 : ∀ x ∈ p0, x.block < W.heap.size := fun x hx => hW'.lt x (by simp [hx])
  have hlt3 : ∀ x ∈ p3, x.block < W.heap.size := fun x hx => hW'.lt x (by simp [hx])
  rw [MakeChecks.laidMetH_plain _ _ _ (by kernel_rfl)] at hL
  have hP := p10_of hL (by simp [Rows.typesEqualRow])
  obtain ⟨G0, hG0, hq0⟩ := graph_arg h0
  obtain ⟨L3, hL3, hok3⟩ := pairs_arg h3
  refine (equal_law _ _ G0 x1 x2 L3 W hG0 hq0 hL3 hok3 hP).mono fun e W' ⟨he, hb⟩ => ?_
  subst he
  exact ⟨_, rfl, _, _, _, [], p0 ++ p3, [], hW', trodAll_mk1 (shut_bool Tryz.underlying4 _), by
    have := trodAll_mk4 (graph_again h0 hb hlt0) (shut_int Tryz.underlying3 w1) (shut_int Tryz.underlying3 w2) (pairs_again h3 hb hlt3)
    try simp only [List.nil_append] at this
    exact this, rfl, hb.frame _, fun h => by cases h⟩
end Go.Proofs.YteaokkaidcbdlaaGreatDoor

