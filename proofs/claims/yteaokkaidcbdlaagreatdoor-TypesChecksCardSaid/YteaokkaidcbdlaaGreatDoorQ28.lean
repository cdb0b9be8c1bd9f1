/- Part 28 of 51: the texts Tc, Ft, one behind the other. -/
import Derived.Test.YteaokkaidcbdlaaGreatDoorQ27
import Derived.Deep.RegionHeld3
import Derived.Tactics
import Derived.Tactics2
import Derived.WalkKit
import Derived.LoopTactic
import Derived.Outline
import Derived.Lib.Hide
import Derived.Handy
import Derived.KernelRfl
import Derived.Deep.LoopGhost
import Derived.CallsIn
import Derived.Deep.QuietTactic
import Derived.BigQuiet
import Derived.Deep.Draws
import Derived.WalkSpells
import Derived.Lib.Walk
import Derived.Lib.Strings
import Derived.Maps.OwnOps
import Derived.Maps.OwnSet
import Derived.Deep.RegionWith
import Derived.StillTailTactics
import Derived.WalkMore
import Derived.RangeFuncNested
import Derived.RangeFuncBound
import Derived.RangeFuncCalls
import Derived.RangeFuncLeaves
import Derived.RangeFuncBox
import Derived.Shelf.Abstract
import Derived.OwnWalkIn
import Derived.TacticsInMore
import Derived.LoopNIn
import Derived.LoopIn
import Derived.RecoverIn
import Derived.Maps.AppendAt
import Derived.RegionTactic
import Derived.ChangeAlike
import Derived.OwnWalk
import Derived.Deep.AppendLies
import Derived.Deep.DeepCutAuto
import Derived.Deep.RegionLaw
import Derived.Laws.EntriesVeiled
import Derived.Test.YteaokkaidcbdlaaGreatDoorQ25
/- tellsApart (69): whether a way tells two types apart -/
namespace Go.Proofs.YteaokkaidcbdlaaGreatDoor
open Go Go.RowKit Go.Shelf
/-! ### Types that agree have as many references -/
theorem eqF_same {α : Type} {f : α → α → Bool} {l m : List α} (h : eqF f l m = true) : l.length = m.length := by
  unfold eqF at h
  rw [Bool.and_eq_true, decide_eq_true_eq] at h
  exact h.1
theorem eqF_cons {α : Type} {f : α → α → Bool} {x y : α} {l m : List α} (h : eqF f (x :: l) (y :: m) = true) : f x y = true ∧ eqF f l m = true := by
  unfold eqF at h ⊢
  rw [Bool.and_eq_true, decide_eq_true_eq] at h
  simp only [List.zip_cons_cons, List.all_cons, Bool.and_eq_true, List.length_cons] at h
  rw [Bool.and_eq_true, decide_eq_true_eq]
  exact ⟨h.2.1, by omega, h.2.2⟩
theorem fitB_iff {i j : Int} (h : fitB i j = true) : i = -1 ↔ j = -1 := by
  unfold fitB at h
  by_cases h1 : i = -1 <;> by_cases h2 : j = -1 <;> simp_all
theorem meths_refs : ∀ {l m : List MethD}, eqF methFitB l m = true → (l.flatMap sigRefs).length = (m.flatMap sigRefs).length
  | [], [], _ => rfl
  | [], _ :: _, h => by have := eqF_same h; simp at this
  | _ :: _, [], h => by have := eqF_same h; simp at this
  | x :: l, y :: m, h => by
    obtain ⟨h1, h2⟩ := eqF_cons h
    have ih := meths_refs h2
    unfold methFitB at h1
    simp only [Bool.and_eq_true] at h1
    obtain ⟨_, _, h3, h4, _⟩ := h1
    have h5 := eqF_same h3
    have h6 := fitB_iff h4
    rw [List.flatMap_cons, List.flatMap_cons, List.length_append, List.length_append, ih]
    congr 1
    unfold sigRefs
    rw [List.length_append, List.length_append, h5]
    congr 1
    by_cases h7 : x.result = -1
    · rw [if_pos h7, if_pos (h6.1 h7)]
    · rw [if_neg h7, if_neg (fun e => h7 (h6.2 e))]; rfl
theorem agree_refs {a b : TyD} (h : agreeB a b = true) : (refsOf a).length = (refsOf b).length := by
  unfold agreeB at h
  simp only [Bool.and_eq_true] at h
  obtain ⟨hp, _, h2, h3, _⟩ := h
  unfold plainB at hp
  simp only [Bool.and_eq_true] at hp
  have hk : a.kind = b.kind := by have := hp.1; simp at this; omega
  unfold refsOf
  rw [List.length_append, List.length_append, List.length_append, List.length_append, List.length_map, List.length_map, meths_refs h3, eqF_same h2, hk]
  congr 1
  split <;> rfl
theorem agB_refs {G : List TyD} (p : Nat × Nat) (_ : p.1 < G.length) (_ : p.2 < G.length) (h : agB G p = true) : (refsOf (G.getD p.1 default)).length ≤ (refsOf (G.getD p.2 default)).length :=
  Nat.le_of_eq (agree_refs h)
/-! ### tellsApart (69) -/
def tellsL (G : List TyD) : Nat × Nat → List Int → Bool
  | p, [] => !agB G p
  | p, k :: ks => if agB G p then (if 0 ≤ k ∧ k < ((refsOf (G.getD p.1 default)).length : Int) then tellsL G (((refsOf (G.getD p.1 default)).getD k.toNat 0).toNat, ((refsOf (G.getD p.2 default)).getD k.toNat 0).toNat) ks else false) else false
set_option maxRecDepth 100000 in
set_option maxHeartbeats 16000000 in
theorem tellsApart_any (o : Option Addr) (cap : Nat) (G : List TyD) (p0 : Nat × Nat) (wv : Value) (way : List Int) (W : World) (hG : GrAt W (.slice o G.length cap) G) (hR : ∀ t ∈ G, (refsOf t).length ≤ 100000) (hz : ∀ t ∈ G, ∀ x ∈ refsOf t, 0 ≤ x ∧ x < G.length)
    (hw : SliceOf 1 (IntAt W) wv way) (h1 : p0.1 < G.length) (h2 : p0.2 < G.length) :
    Calls Tryz.prog 69 #[.slice o G.length cap, prV p0, wv] W fun e w' => e = .returned (.bool (tellsL G p0 way)) ∧ Below W.heap.size W w' := by
  obtain ⟨ow, cw, rfl⟩ := hw.form
  obtain ⟨-, hwm, hwl, hwat⟩ := hw.at
  have hwn : way.length ≤ 9223372036854775807 := by unfold maxLen at hwm; omega
  unfold prV pairV
  go_enter Tryz.func69, Tryz.ntmps69
  go_wp2
  have hB0 := Blk.new W [.int .i64 p0.1, .int .i64 p0.2] 64
  have hb0 := (Below.refl W.heap.size W).alloc (Nat.le_refl _) (.cells #[.int .i64 p0.1, .int .i64 p0.2] 64)
  change Blk (W.alloc (.cells #[.int .i64 p0.1, .int .i64 p0.2] 64)) _ _ _ at hB0
  generalize W.alloc (.cells #[.int .i64 p0.1, .int .i64 p0.2] 64) = W0 at hB0 hb0 ⊢
  go_loopw [13] (fun i wr => ∃ (q : Nat) (p : Nat × Nat), q ≤ way.length ∧ i = .int .i64 q ∧ Below W.heap.size W wr ∧ Blk wr W.heap.size [.int .i64 p.1, .int .i64 p.2] 64 ∧ p.1 < G.length ∧ p.2 < G.length ∧ tellsL G p0 way = tellsL G p (way.drop q)) (fun i _ => way.length - (intOf i).toNat)
  case atStart => exact ⟨0, p0, Nat.zero_le _, rfl, hb0, hB0, h1, h2, by simp⟩
  case round =>
    obtain ⟨q, p, hq, rfl, hbw, hBp, hp1, hp2, heq⟩ := hrel
    obtain ⟨b, off, u1, u2, u3, rfl, gl1, hc1⟩ := hG.cells hp1
    obtain ⟨b', off', v1, v2, v3, e', gl2, hc2⟩ := hG.cells hp2
    cases e'
    have i1 : (p.1 : Int) < G.length := by omega
    have i2 : (p.2 : Int) < G.length := by omega
    have hA := hide (fun W' (hb : Below wr.heap.size wr W') => agree_any G[p.1] G[p.2] u1 u2 u3 v1 v2 v3 W' (gl1.go (.below (hbw.trans (hb.mono hbw.size)))) (gl2.go (.below (hbw.trans (hb.mono hbw.size)))))
    have hK1 : ∀ W', Below wr.heap.size wr W' → ∀ j u, (tyC G[p.1] u1 u2 u3)[j]? = some u → W'.cell? ⟨b, off + p.1 * 10 + j, none⟩ = some u := fun W' hb => hc1 W' (.below (hbw.trans (hb.mono hbw.size)))
    have hK2 : ∀ W', Below wr.heap.size wr W' → ∀ j u, (tyC G[p.2] v1 v2 v3)[j]? = some u → W'.cell? ⟨b, off + p.2 * 10 + j, none⟩ = some u := fun W' hb => hc2 W' (.below (hbw.trans (hb.mono hbw.size)))
    have hP0 : ∀ W', Below wr.heap.size wr W' → W'.cell? ⟨W.heap.size, 0, none⟩ = some (.int .i64 p.1) := fun W' hb => (hBp.below hb hBp.lt).cell 0
    have hP1 : ∀ W', Below wr.heap.size wr W' → W'.cell? ⟨W.heap.size, 1, none⟩ = some (.int .i64 p.2) := fun W' hb => (hBp.below hb hBp.lt).cell 1
    have hagd : agB G p = agreeB G[p.1] G[p.2] := by unfold agB; simp [List.getD_eq_getElem?_getD, hp1, hp2]
    obtain ⟨bx, hbx⟩ : ∃ bx, agreeB G[p.1] G[p.2] = bx := ⟨_, rfl⟩
    rw [hbx] at hA hagd
    have HGT1 := Lib.hid (show G.getD p.1 default = G[p.1] by simp [List.getD_eq_getElem?_getD, hp1])
    have HGT2 := Lib.hid (show G.getD p.2 default = G[p.2] by simp [List.getD_eq_getElem?_getD, hp2])
    have hT1 : TyAt W b (off + p.1 * 10) G[p.1] := by
      obtain ⟨b2, off2, e2, h⟩ := hG.at.2.2.2 p.1 G[p.1] (List.getElem?_eq_getElem hp1)
      cases e2; exact h
    have hT2 : TyAt W b (off + p.2 * 10) G[p.2] := by
      obtain ⟨b2, off2, e2, h⟩ := hG.at.2.2.2 p.2 G[p.2] (List.getElem?_eq_getElem hp2)
      cases e2; exact h
    have hlr : bx = true → (refsOf G[p.1]).length = (refsOf G[p.2]).length := fun h => agree_refs (hbx.trans h)
    have hm1 : G[p.1] ∈ G := List.getElem_mem hp1
    have hm2 : G[p.2] ∈ G := List.getElem_mem hp2
    clear hbx hc1 hc2 gl1 gl2
    generalize G[p.1] = t1 at hA hK1 HGT1 hm1 hT1 hlr
    generalize G[p.2] = t2 at hA hK2 HGT2 hm2 hT2 hlr
    have HEQ := Lib.hid heq
    have HAG := Lib.hid hagd
    have HHW := hide hwat
    have HRR := hide hR
    have HHZ := hide hz
    have HLR := hide hlr
    clear heq hagd hwat hR hz hlr
    by_cases hlt : q < way.length
    · have hlt' : (q : Int) < way.length := by omega
      obtain ⟨wb, woff, rfl, hk0⟩ := unhide HHW q way[q] (List.getElem?_eq_getElem hlt)
      have hkc : wr.cell? ⟨wb, woff + q * 1, none⟩ = some (.int .i64 way[q]) := Holds.below hbw _ _ hk0
      rw [Nat.mul_one] at hkc
      have HDR := Lib.hid (show way.drop q = way[q] :: way.drop (q + 1) from List.drop_eq_getElem_cons hlt)
      generalize way[q] = k at hkc HDR hk0
      clear hk0
      go_wp2_with fail
      refine wp_region_quiet (C := fun w' => Below wr.heap.size wr w') (by kernel_rfl) (by kernel_rfl) (below_drewN' (Below.refl _ _) 1) ?_
      simp only []
      repeat (first
      | go_big_quiet_skip
      | (go_big_quiet_want; go_big_quiet_op; first
        | go_big_quiet_on
        | (refine ⟨_, fun _ _ => rfl, ?_⟩; go_big_quiet_on)
        | (refine ⟨.int .i64 (p.1 : Int), ?_, ?_⟩
           · intro w1 hb
             have e := hP0 w1 hb
             simp [e, go_sem]
             done
           go_big_quiet_on)
        | (refine ⟨.int .i64 (p.2 : Int), ?_, ?_⟩
           · intro w1 hb
             have e := hP1 w1 hb
             simp [e, go_sem]
             done
           go_big_quiet_on)
        | (refine ⟨tyVal t1 u1 u2 u3, ?_, ?_⟩
           · intro w1 hb
             have e0 := hK1 w1 hb 0 _ rfl
             have e1 := hK1 w1 hb 1 _ rfl
             have e2 := hK1 w1 hb 2 _ rfl
             have e3 := hK1 w1 hb 3 _ rfl
             have e4 := hK1 w1 hb 4 _ rfl
             have e5 := hK1 w1 hb 5 _ rfl
             have e6 := hK1 w1 hb 6 _ rfl
             have e7 := hK1 w1 hb 7 _ rfl
             have e8 := hK1 w1 hb 8 _ rfl
             have e9 := hK1 w1 hb 9 _ rfl
             rw [Nat.add_zero] at e0
             simp [e0, e1, e2, e3, e4, e5, e6, e7, e8, e9, tyVal, go_sem]
             done
           go_big_quiet_on)
        | (refine ⟨tyVal t2 v1 v2 v3, ?_, ?_⟩
           · intro w1 hb
             have e0 := hK2 w1 hb 0 _ rfl
             have e1 := hK2 w1 hb 1 _ rfl
             have e2 := hK2 w1 hb 2 _ rfl
             have e3 := hK2 w1 hb 3 _ rfl
             have e4 := hK2 w1 hb 4 _ rfl
             have e5 := hK2 w1 hb 5 _ rfl
             have e6 := hK2 w1 hb 6 _ rfl
             have e7 := hK2 w1 hb 7 _ rfl
             have e8 := hK2 w1 hb 8 _ rfl
             have e9 := hK2 w1 hb 9 _ rfl
             rw [Nat.add_zero] at e0
             simp [e0, e1, e2, e3, e4, e5, e6, e7, e8, e9, tyVal, go_sem]
             done
           go_big_quiet_on)
        | (apply Exists.intro
           refine ⟨fun w1 hb => ?_, ?_⟩
           · with_reducible refine (unhide hA w1 hb).mono ?_
             rintro e w2 ⟨rfl, hb2⟩
             exact ⟨rfl, hb.trans (hb2.mono hb.size)⟩
           go_big_quiet_on)))
      refine wpQuiet_nil ?_
      rintro w1 hb1
      have hbw1 := hbw.trans (hb1.mono hbw.size)
      cases bx
      · go_wp2
        go_ret
        exact ⟨ret_bool (by rw [HEQ.out, HDR.out, tellsL, HAG.out]; rfl), hbw1⟩
      · have hB1 := hBp.below hb1 hBp.lt
        have hQ0 : ∀ W', Below w1.heap.size w1 W' → W'.cell? ⟨W.heap.size, 0, none⟩ = some (.int .i64 p.1) := fun W' hb => (hB1.below hb hB1.lt).cell 0
        have hQ1 : ∀ W', Below w1.heap.size w1 W' → W'.cell? ⟨W.heap.size, 1, none⟩ = some (.int .i64 p.2) := fun W' hb => (hB1.below hb hB1.lt).cell 1
        have HL := hide (fun W' (hb : Below w1.heap.size w1 W') => references_any b (off + p.1 * 10) t1 W' (hT1.go (.below (hbw1.trans (hb.mono hbw1.size)))) (unhide HRR _ hm1))
        have HR := hide (fun W' (hb : Below w1.heap.size w1 W') => references_any b (off + p.2 * 10) t2 W' (hT2.go (.below (hbw1.trans (hb.mono hbw1.size)))) (unhide HRR _ hm2))
        have hbE : Below w1.heap.size w1 w1.drew := ⟨rfl, rfl, rfl, Nat.le_refl _, fun _ _ => rfl⟩
        clear hA hK1 hK2 hP0 hP1
        go_wp2_with fail
        go_region_held3 (fun w' => w'.cell? ⟨W.heap.size, 0, none⟩ = some (.int .i64 p.1) ∧ w'.cell? ⟨W.heap.size, 1, none⟩ = some (.int .i64 p.2)) (exact ⟨hQ0 _ hbE, hQ1 _ hbE⟩) (first
          | (go_at_call 104; with_reducible refine (unhide HL _ hbE).mono ?_; clear HL; rintro e wL ⟨vL, rfl, rL, hbL⟩; obtain ⟨oL, cL, rfl⟩ := row_form rL; (try have rR := Row.below rR hbL); replace hbE := hbE.trans (hbL.mono hbE.size))
          | (go_at_call 104; with_reducible refine (unhide HR _ hbE).mono ?_; clear HR; rintro e wR ⟨vR, rfl, rR, hbR⟩; obtain ⟨oR, cR, rfl⟩ := row_form rR; (try have rL := Row.below rL hbR); replace hbE := hbE.trans (hbR.mono hbE.size)))
        all_goals
          have hl12 := unhide HLR (by simp)
          have hbe := hbw1.trans (hbE.mono hbw1.size)
          rcases (show k < 0 ∨ (0 ≤ k ∧ ((refsOf t1).length : Int) ≤ k) ∨ (0 ≤ k ∧ k < (refsOf t1).length) by omega) with hk | ⟨hk, hk'⟩ | ⟨hk, hk'⟩
          · have HX := Lib.hid (show tellsL G p0 way = false by rw [HEQ.out, HDR.out, tellsL, HAG.out, HGT1.out, if_pos rfl, if_neg (by omega)])
            clear hl12
            go_wp2
            go_ret
            exact ⟨ret_bool HX.out.symm, hbe⟩
          · have HX := Lib.hid (show tellsL G p0 way = false by rw [HEQ.out, HDR.out, tellsL, HAG.out, HGT1.out, if_pos rfl, if_neg (by omega)])
            have hk0 : ¬ k < 0 := by omega
            clear hl12
            go_wp2
            go_ret
            exact ⟨ret_bool HX.out.symm, hbe⟩
          · obtain ⟨kn, rfl⟩ := Int.eq_ofNat_of_zero_le hk
            have hkn2 : kn < (refsOf t2).length := by omega
            have hkn1 : kn < (refsOf t1).length := by omega
            obtain ⟨gL, rfl, -, cLk⟩ := row_cell rL kn hkn1
            obtain ⟨gR, rfl, -, cRk⟩ := row_cell rR kn hkn2
            obtain ⟨x, hx⟩ : ∃ x : Nat, (refsOf t1)[kn] = x := Int.eq_ofNat_of_zero_le (unhide HHZ _ hm1 _ (List.getElem_mem hkn1)).1
            obtain ⟨y, hy⟩ : ∃ y : Nat, (refsOf t2)[kn] = y := Int.eq_ofNat_of_zero_le (unhide HHZ _ hm2 _ (List.getElem_mem hkn2)).1
            have hxn : x < G.length := by have := (unhide HHZ _ hm1 _ (List.getElem_mem hkn1)).2; rw [hx] at this; omega
            have hyn : y < G.length := by have := (unhide HHZ _ hm2 _ (List.getElem_mem hkn2)).2; rw [hy] at this; omega
            rw [hx] at cLk
            rw [hy] at cRk
            have HX := Lib.hid (show tellsL G p0 way = tellsL G (x, y) (way.drop (q + 1)) by
              rw [HEQ.out, HDR.out, tellsL, HAG.out, HGT1.out, HGT2.out, if_pos rfl, if_pos ⟨hk, by omega⟩]
              simp [List.getD_eq_getElem?_getD, hkn1, hkn2, hx, hy])
            have hk0 : ¬ (kn : Int) < 0 := by omega
            have hk1 : ¬ ((refsOf t1).length : Int) ≤ kn := by omega
            have hB2 := hB1.below hbE hB1.lt
            clear hl12 hx hy hQ0 hQ1
            go_wp2_with fail
            refine region_tail 9 (by kernel_rfl) (by kernel_rfl) ?_
            simp only [List.take_succ_cons, List.take_zero, List.drop_succ_cons, List.drop_zero]
            repeat (go_big_quiet_step (fail))
            refine wpQuiet_nil ?_
            rintro _ ⟨nq, rfl⟩
            have hbn := below_drewN' hbe nq
            have c90 := (hB2.drewN nq).cell 0
            have c91 := (hB2.drewN nq).cell 1
            have z90 := (hB2.drewN nq).frozen 0
            have z91 := (hB2.drewN nq).frozen 1
            have hB3 := (hB2.drewN nq).set 0 (.int .i64 (x : Int))
            have hB4 := hB3.set 1 (.int .i64 (y : Int))
            go_wp2
            exact ⟨⟨q + 1, (x, y), by omega, by go_num, (hbn.setCell (p := ⟨W.heap.size, 0, none⟩) (Nat.le_refl _) _).setCell (p := ⟨W.heap.size, 1, none⟩) (Nat.le_refl _) _, hB4, hxn, hyn, HX.out⟩, by simp [intOf]; omega⟩
    · obtain rfl : q = way.length := by omega
      have HDR := Lib.hid (show way.drop way.length = [] from List.drop_length)
      go_wp2_with fail
      refine wp_region_quiet (C := fun w' => Below wr.heap.size wr w') (by kernel_rfl) (by kernel_rfl) (below_drewN' (Below.refl _ _) 1) ?_
      simp only []
      repeat (first
      | go_big_quiet_skip
      | (go_big_quiet_want; go_big_quiet_op; first
        | go_big_quiet_on
        | (refine ⟨_, fun _ _ => rfl, ?_⟩; go_big_quiet_on)
        | (refine ⟨.int .i64 (p.1 : Int), ?_, ?_⟩
           · intro w1 hb
             have e := hP0 w1 hb
             simp [e, go_sem]
             done
           go_big_quiet_on)
        | (refine ⟨.int .i64 (p.2 : Int), ?_, ?_⟩
           · intro w1 hb
             have e := hP1 w1 hb
             simp [e, go_sem]
             done
           go_big_quiet_on)
        | (refine ⟨tyVal t1 u1 u2 u3, ?_, ?_⟩
           · intro w1 hb
             have e0 := hK1 w1 hb 0 _ rfl
             have e1 := hK1 w1 hb 1 _ rfl
             have e2 := hK1 w1 hb 2 _ rfl
             have e3 := hK1 w1 hb 3 _ rfl
             have e4 := hK1 w1 hb 4 _ rfl
             have e5 := hK1 w1 hb 5 _ rfl
             have e6 := hK1 w1 hb 6 _ rfl
             have e7 := hK1 w1 hb 7 _ rfl
             have e8 := hK1 w1 hb 8 _ rfl
             have e9 := hK1 w1 hb 9 _ rfl
             rw [Nat.add_zero] at e0
             simp [e0, e1, e2, e3, e4, e5, e6, e7, e8, e9, tyVal, go_sem]
             done
           go_big_quiet_on)
        | (refine ⟨tyVal t2 v1 v2 v3, ?_, ?_⟩
           · intro w1 hb
             have e0 := hK2 w1 hb 0 _ rfl
             have e1 := hK2 w1 hb 1 _ rfl
             have e2 := hK2 w1 hb 2 _ rfl
             have e3 := hK2 w1 hb 3 _ rfl
             have e4 := hK2 w1 hb 4 _ rfl
             have e5 := hK2 w1 hb 5 _ rfl
             have e6 := hK2 w1 hb 6 _ rfl
             have e7 := hK2 w1 hb 7 _ rfl
             have e8 := hK2 w1 hb 8 _ rfl
             have e9 := hK2 w1 hb 9 _ rfl
             rw [Nat.add_zero] at e0
             simp [e0, e1, e2, e3, e4, e5, e6, e7, e8, e9, tyVal, go_sem]
             done
           go_big_quiet_on)
        | (apply Exists.intro
           refine ⟨fun w1 hb => ?_, ?_⟩
           · with_reducible refine (unhide hA w1 hb).mono ?_
             rintro e w2 ⟨rfl, hb2⟩
             exact ⟨rfl, hb.trans (hb2.mono hb.size)⟩
           go_big_quiet_on)))
      refine wpQuiet_nil ?_
      rintro w1 hb1
      go_wp2
      go_ret
      exact ⟨ret_bool (by rw [HEQ.out, HDR.out, tellsL, HAG.out]), hbw.trans (hb1.mono hbw.size)⟩
end Go.Proofs.YteaokkaidcbdlaaGreatDoor
/- a graph that checks is fit for classes; Equal (23) of a light graph -/
namespace Go.Proofs.YteaokkaidcbdlaaGreatDoor
open Go Go.RowKit Go.Shelf
/-! ### A graph that checks is fit for classes -/
theorem idxB_iff {n : Nat} {i : Int} : idxB n i = true ↔ 0 ≤ i ∧ i < n := by unfold idxB; simp
/-- What the table of kinds says of the references. -/
structure RefsIn (n : Nat) (t : TyD) : Prop where
  sup : supB t.kind = true → 0 ≤ t.super ∧ t.super < n
  parts : ∀ p ∈ t.parts, 0 ≤ p.type ∧ p.type < n
  meths : ∀ m ∈ t.meths, sigB n m = true
theorem parts_nil {t : TyD} (h : t.parts.length = 0) : t.parts = [] := List.eq_nil_of_length_eq_zero h
theorem meths_nil {t : TyD} (h : t.meths.length = 0) : t.meths = [] := List.eq_nil_of_length_eq_zero h
theorem bareB_zero {t : TyD} {n : Nat} (h : bareB t n = true) : n = 0 := by
  unfold bareB at h
  rw [Bool.and_eq_true, decide_eq_true_eq] at h
  exact h.2
theorem fieldsB_parts {n : Nat} {t : TyD} (h : fieldsB n t = true) : ∀ p ∈ t.parts, 0 ≤ p.type ∧ p.type < n := by
  unfold fieldsB at h
  rw [Bool.and_eq_true, Bool.and_eq_true, List.all_eq_true] at h
  exact fun p hp => idxB_iff.1 (h.2.2 p hp)
theorem partB_parts {n : Nat} {t : TyD} (h : partB n t = true) : ∀ p ∈ t.parts, 0 ≤ p.type ∧ p.type < n := by
  unfold partB at h
  split at h
  · rename_i q hq
    rw [Bool.and_eq_true] at h
    intro p hp
    rw [hq, List.mem_singleton] at hp
    subst hp
    exact idxB_iff.1 h.2
  · cases h
theorem methsB_meths {n : Nat} {t : TyD} (h : methsB n t = true) : ∀ m ∈ t.meths, sigB n m = true := by
  unfold methsB at h
  rw [Bool.and_eq_true, List.all_eq_true] at h
  intro m hm
  have := h.2 m hm
  unfold methB at this
  rw [Bool.and_eq_true] at this
  exact this.1
theorem tyB_refs {G : List TyD} {t : TyD} (h : tyB G t = true) : RefsIn G.length t := by
  unfold tyB at h
  have hsup : t.kind ≠ 12 → t.kind ≠ 13 → supB t.kind = true → 0 ≤ t.super ∧ t.super < G.length := fun h1 h2 h3 => by
    unfold supB at h3; simp at h3; omega
  have none' : t.parts.length + t.meths.length + t.overs.length = 0 → (∀ p ∈ t.parts, 0 ≤ p.type ∧ p.type < G.length) ∧ (∀ m ∈ t.meths, sigB G.length m = true) := fun h0 => by
    rw [parts_nil (by omega), meths_nil (by omega)]
    exact ⟨fun p hp => by simp at hp, fun p hp => by simp at hp⟩
  have nom : 0 + t.meths.length + t.overs.length = 0 → (∀ m ∈ t.meths, sigB G.length m = true) := fun h0 => by
    rw [meths_nil (by omega)]
    exact fun p hp => by simp at hp
  split at h
  case h_8 hk =>
    rw [Bool.and_eq_true] at h
    have := none' (bareB_zero h.2)
    exact ⟨hsup (by omega) (by omega), this.1, this.2⟩
  case h_9 hk =>
    rw [Bool.and_eq_true, Bool.and_eq_true] at h
    exact ⟨hsup (by omega) (by omega), partB_parts h.1.2, nom (bareB_zero h.2)⟩
  case h_10 hk =>
    rw [Bool.and_eq_true, Bool.and_eq_true] at h
    exact ⟨hsup (by omega) (by omega), partB_parts h.1.2, nom (bareB_zero h.2)⟩
  case h_11 hk =>
    rw [Bool.and_eq_true, Bool.and_eq_true] at h
    exact ⟨hsup (by omega) (by omega), fieldsB_parts h.1.2, nom (bareB_zero h.2)⟩
  case h_12 hk =>
    simp only [Bool.and_eq_true] at h
    have hs := h.1.1.1.1.2
    unfold superB at hs
    rw [Bool.and_eq_true] at hs
    exact ⟨fun _ => idxB_iff.1 hs.1, fieldsB_parts h.1.1.1.2, methsB_meths h.1.1.2⟩
  case h_13 hk =>
    simp only [Bool.and_eq_true] at h
    have hs := h.1.2
    unfold superB at hs
    rw [Bool.and_eq_true] at hs
    have := none' (bareB_zero h.2)
    exact ⟨fun _ => idxB_iff.1 hs.1, this.1, this.2⟩
  case h_14 => cases h
  all_goals
    have := none' (bareB_zero h)
    exact ⟨hsup (by omega) (by omega), this.1, this.2⟩
theorem sigRefs_in {n : Nat} {m : MethD} (h : sigB n m = true) : (∀ x ∈ sigRefs m, 0 ≤ x ∧ x < n) ∧ (sigRefs m).length ≤ 7 := by
  unfold sigB at h
  simp only [Bool.and_eq_true, decide_eq_true_eq, Bool.or_eq_true, List.all_eq_true] at h
  obtain ⟨⟨h1, _⟩, h2, h3, _⟩ := h
  unfold sigRefs
  constructor
  · intro x hx
    rw [List.mem_append] at hx
    rcases hx with hx | hx
    · exact idxB_iff.1 (h2 x hx)
    · split at hx
      · simp at hx
      · rw [List.mem_singleton] at hx
        subst hx
        rcases h3 with h3 | h3
        · contradiction
        · exact idxB_iff.1 h3
  · rw [List.length_append]
    split <;> simp <;> omega
theorem flat_len {l : List MethD} {n : Nat} (h : ∀ m ∈ l, sigB n m = true) : (l.flatMap sigRefs).length ≤ 7 * l.length := by
  induction l with
  | nil => simp
  | cons m l ih =>
    rw [List.flatMap_cons, List.length_append, List.length_cons]
    have h1 := (sigRefs_in (h m (by simp))).2
    have h2 := ih (fun m' hm => h m' (by simp [hm]))
    omega
theorem refs_in {n : Nat} {t : TyD} (h : RefsIn n t) (hp : t.parts.length ≤ 10) (hm : t.meths.length ≤ 10) : (∀ x ∈ refsOf t, 0 ≤ x ∧ x < n) ∧ (refsOf t).length ≤ 100000 := by
  constructor
  · intro x hx
    unfold refsOf at hx
    rw [List.mem_append, List.mem_append] at hx
    rcases hx with hx | hx | hx
    · split at hx
      · rename_i hs
        rw [List.mem_singleton] at hx
        subst hx
        exact h.sup hs
      · simp at hx
    · obtain ⟨p, hp', rfl⟩ := List.mem_map.1 hx
      exact h.parts p hp'
    · obtain ⟨m, hm', hx⟩ := List.mem_flatMap.1 hx
      exact (sigRefs_in (h.meths m hm')).1 x hx
  · unfold refsOf
    have := flat_len h.meths
    rw [List.length_append, List.length_append, List.length_map]
    generalize (t.meths.flatMap sigRefs).length = q at this ⊢
    split <;> simp <;> omega
theorem check_fit {G : List TyD} (hz : GrZ G) (h : (checkR G).2 = 0) : Fit G := by
  unfold checkR at h
  split at h
  · simp at h
  · rename_i h4
    split at h
    · simp at h
    · rename_i hn
      have hall := firstNo_all (p := tyB G) (l := G) (by
        rcases firstNo_ge (tyB G) G with h1 | h1
        · exact h1
        · exact absurd h1 hn)
      refine ⟨by omega, fun t ht => ?_, fun t ht => ?_⟩
      · exact (refs_in (tyB_refs (hall t ht)) (hz.tys t ht).2.1 (hz.tys t ht).2.2.1).2
      · exact (refs_in (tyB_refs (hall t ht)) (hz.tys t ht).2.1 (hz.tys t ht).2.2.1).1
/-- Equal of a graph whose types are light: no more is asked. -/
theorem equal_all (gv : Value) (G : List TyD) (i j : Int) (W : World) (hG0 : GrAt W gv G) (hz : GrZ G) :
    Calls Tryz.prog 23 #[gv, .int .i64 i, .int .i64 j] W fun e w' => e = .returned (.tuple #[.bool (equalL G i j).1, .int .i64 (equalL G i j).2]) ∧ Below W.heap.size W w' :=
  equal_any gv G i j W hG0 hz (fun h => check_fit hz (by
    unfold checkedR at h
    split at h
    · rename_i hne; exact absurd h hne
    · rename_i hne; simpa using hne))
end Go.Proofs.YteaokkaidcbdlaaGreatDoor
